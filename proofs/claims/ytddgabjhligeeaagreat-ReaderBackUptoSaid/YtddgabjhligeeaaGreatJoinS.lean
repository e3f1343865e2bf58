import Derived.Test.YtddgabjhligeeaaGreatJoinN
import Derived.Test.YtddgabjhligeeaaGreatJoinQ
set_option maxHeartbeats 2000000
set_option maxRecDepth 100000
namespace Go.Proofs.YtddgabjhligeeaaGreat.mk
open Go.RowKit
def zh(l:List (UInt8 × Int)):ByteArray:=⟨(l.map (·.1)).toArray⟩
def runN(l:List (UInt8 × Int)):Nat:=(comp (l.map (·.2))).length
def zn0(l:List (UInt8 × Int))(W:World)(e:Ending)(w':World):Prop:=
  ∃ D k,e=.returned (.agg #[.string (zh l),.slice D (runN l) k])/\Lies w' w'.heap.size D (zd (comp (l.map (·.2))))/\Below W.heap.size W w'
theorem ziV{l:List (UInt8 × Int)}{W:World}{e:Ending}{w':World}(h:zbD ⟨(l.map (·.1)).toArray⟩ (comp (l.map (·.2))) W e w'):zn0 l W e w':=by
  obtain⟨v,rfl,ho,hb⟩:=h
  obtain⟨D,k,rfl,_,_,_⟩:=zg ho
  exact⟨D,k,rfl,Lies.own ho,hb⟩
theorem zep(l:List (UInt8 × Int)):runN l<=l.length:=by
  have:=zE (l.map (·.2))
  rw[List.length_map]at this
  exact this
def LT.ch(t:LT):List (UInt8 × Int):=chars t.bs t.rs
theorem LT.ch_length(t:LT):t.ch.length=t.s.size:=by unfold LT.ch;rw[zbC,LT.bs_length]
theorem LT.ch_fst(t:LT):t.ch.map (·.1)=t.bs:=zbQ _ _
theorem LT.ch_snd(t:LT):t.ch.map (·.2)=t.os:=by unfold LT.ch;rw[zbB,LT.bs_length];rfl
theorem zA(l:List (UInt8 × Int)):(zh l).size=l.length:=by show(l.map (·.1)).toArray.size=_;simp
theorem zcJ{l:List (UInt8 × Int)}(h:InR l):chars (zh l).data.toList (comp (l.map (·.2)))=l:=zg4 h
def zbK(l:List (UInt8 × Int))(D:Option Addr)(k:Nat):LT:=⟨zh l,D,runN l,k,comp (l.map (·.2))⟩
theorem zav{l:List (UInt8 × Int)}(h:InR l)(D:Option Addr)(k:Nat):(zbK l D k).ch=l:=zcJ h
theorem zcK{l:List (UInt8 × Int)}{D:Option Addr}{W:World}(k:Nat)(h:Lies W W.heap.size D (zd (comp (l.map (·.2)))))(hn:l.length<=4294967296):(zbK l D k).ok W W.heap.size:=
  ⟨h,rfl,Nat.le_trans (zep l) hn,by show(zh l).size<=_;rw[zA];exact hn⟩
theorem LT.ch_in(t:LT):InR t.ch:=InR.chars _ _
abbrev Ch:=List (UInt8 × Int)
abbrev PA:=Ch × Ch
def nmB(p:PA):List UInt8:=p.1.map (·.1)
def zP(L:List PA)(nm:List UInt8):Nat:=L.findIdx (fun p=>nmB p == nm)
def getA(L:List PA)(nm:List UInt8):Option PA:=L[zP L nm]?
def isI(f:PA->Bool)(L:List PA)(i:Nat):Bool:=match L[i]? with | some p=>f p | none=>false
def zaB(p:Nat->Bool)(L:List PA):Nat->List PA
  | 0=>[]
  | k+1=>zaB p L k++ (if p k then (L[k]?).toList else [])
def sel(p:Nat->Bool)(L:List PA):List PA:=zaB p L L.length
def zbm(L:List PA)(i:Nat):Bool:=isI (fun p=>zP L (nmB p) == i) L i
def zH(L:List PA):List PA:=sel (zbm L) L
def putP(A:List PA):PA->Bool:=fun x=>!(getA A (nmB x) == some x)
def zn1(A B:List PA):List PA:=sel (isI (putP A) B) B
def zhT(A B:List PA):List PA:=sel (isI (fun x=>(getA B (nmB x)).isNone) A) A
theorem zn2(L:List PA)(nm:List UInt8):zP L nm<=L.length:=List.findIdx_le_length
theorem zbM{L:List PA}{nm:List UInt8}(h:zP L nm < L.length):∃ p,L[zP L nm]?=some p/\nmB p=nm:=by
  refine⟨_,List.getElem?_eq_getElem h,?_⟩
  have:=List.findIdx_getElem (w:=h) (p:=fun p=>nmB p == nm)
  exact beq_iff_eq.1 this
theorem zc1{L:List PA}{nm:List UInt8}{i:Nat}{p:PA}(h:i < zP L nm)(hp:L[i]?=some p):nmB p≠nm:=by
  have:=List.not_of_lt_findIdx h
  obtain⟨hi,e⟩:=List.getElem?_eq_some_iff.1 hp
  rw[e]at this
  exact beq_eq_false_iff_ne.1 this
theorem zdT{L:List PA}{nm:List UInt8}{i:Nat}{p:PA}(hp:L[i]?=some p)(hn:nmB p=nm)(hb:∀ (j:Nat) (q:PA),j < i->L[j]?=some q->nmB q≠nm):zP L nm=i:=by
  obtain⟨hi,e⟩:=List.getElem?_eq_some_iff.1 hp
  rcases Nat.lt_trichotomy (zP L nm) i with h | h | h
  . obtain⟨q,hq,hqn⟩:=zbM (Nat.lt_trans h hi)
    exact absurd hqn (hb _ _ h hq)
  . exact h
  . exact absurd hn (zc1 h hp)
theorem zkf{L:List PA}{nm:List UInt8}(hb:∀ (j:Nat) (q:PA),L[j]?=some q->nmB q≠nm):zP L nm=L.length:=by
  rcases Nat.lt_or_ge (zP L nm) L.length with h | h
  . obtain⟨q,hq,hqn⟩:=zbM h
    exact absurd hqn (hb _ _ hq)
  . exact Nat.le_antisymm (zn2 _ _) h
theorem zfU{L:List PA}{nm:List UInt8}{i:Nat}{p:PA}(hp:L[i]?=some p)(hn:nmB p=nm):zP L nm<=i:=by
  rcases Nat.lt_or_ge i (zP L nm)with h | h
  . exact absurd hn (zc1 h hp)
  . exact h
theorem zhU{L:List PA}{nm:List UInt8}{p:PA}(h:getA L nm=some p):nmB p=nm:=by
  have hl:=(List.getElem?_eq_some_iff.1 h).1
  obtain⟨q,hq,hn⟩:=zbM hl
  unfold getA at h
  rw[hq]at h
  injection h with h
  rw[<-h];exact hn
theorem zfV{L:List PA}{nm:List UInt8}(h:getA L nm=none):∀ (j:Nat) (q:PA),L[j]?=some q->nmB q≠nm:=by
  intro j q hq hn
  have h1:=zfU hq hn
  have h2:=(List.getElem?_eq_some_iff.1 hq).1
  unfold getA at h
  rw[List.getElem?_eq_none_iff]at h
  omega
theorem ze4{L:List PA}{nm:List UInt8}(h:∀ (j:Nat) (q:PA),L[j]?=some q->nmB q≠nm):getA L nm=none:=by
  unfold getA
  rw[zkf h]
  exact List.getElem?_eq_none (Nat.le_refl _)
theorem zkg{L:List PA}{nm:List UInt8}{i:Nat}{p:PA}(hp:L[i]?=some p)(hn:nmB p=nm)(hb:∀ (j:Nat) (q:PA),j < i->L[j]?=some q->nmB q≠nm):getA L nm=some p:=by
  unfold getA
  rw[zdT hp hn hb]
  exact hp
theorem zkh(L M:List PA)(nm:List UInt8):getA (L++ M) nm=(getA L nm).or (getA M nm):=by
  cases h:getA L nm with
  | some p=>
    have hl:=(List.getElem?_eq_some_iff.1 h).1
    refine zkg (i:=zP L nm) ?_ (zhU h) ?_
    . rw[List.getElem?_append_left hl];exact h
    . intro j q hj hq
      rw[List.getElem?_append_left (by omega)]at hq
      exact zc1 hj hq
  | none=>
    have hn:=zfV h
    simp only[Option.none_or]
    cases h2:getA M nm with
    | some p=>
      have hl:=(List.getElem?_eq_some_iff.1 h2).1
      refine zkg (i:=L.length+zP M nm) ?_ (zhU h2) ?_
      . rw[List.getElem?_append_right (by omega),Nat.add_sub_cancel_left];exact h2
      . intro j q hj hq
        rcases Nat.lt_or_ge j L.length with h3 | h3
        . rw[List.getElem?_append_left h3]at hq;exact hn _ _ hq
        . rw[List.getElem?_append_right h3]at hq
          exact zc1 (by omega) hq
    | none=>
      have hm:=zfV h2
      refine ze4 fun j q hq=>?_
      rcases Nat.lt_or_ge j L.length with h3 | h3
      . rw[List.getElem?_append_left h3]at hq;exact hn _ _ hq
      . rw[List.getElem?_append_right h3]at hq;exact hm _ _ hq
theorem zqW(nm:List UInt8):getA [] nm=none:=rfl
theorem zlp(p:PA)(nm:List UInt8):getA [p] nm=if nmB p=nm then some p else none:=by
  by_cases h:nmB p=nm
  . rw[if_pos h]
    exact zkg (i:=0) rfl h (fun j q hj=>by omega)
  . rw[if_neg h]
    refine ze4 fun j q hq=>?_
    cases j with
    | zero=>injection hq with hq;rw[<-hq];exact h
    | succ j=>cases hq
theorem zb7{f:PA->Bool}{L:List PA}{i:Nat}{p:PA}(h:L[i]?=some p):isI f L i=f p:=by unfold isI;rw[h]
theorem zbq{p:Nat->Bool}{L:List PA}{k:Nat}{x:PA}(h:L[k]?=some x):zaB p L (k+1)=zaB p L k++ (if p k then [x] else []):=by
  show zaB p L k++ (if p k then (L[k]?).toList else [])=_
  rw[h]
  rfl
theorem zdU(p:Nat->Bool)(L:List PA)(k:Nat):(zaB p L k).length<=k:=by
  induction k with
  | zero=>exact Nat.le_refl _
  | succ k ih=>
    unfold zaB
    rw[List.length_append]
    split
    . cases L[k]?<;>simp<;>omega
    . simp;omega
theorem zdD(p:Nat->Bool)(L:List PA):(sel p L).length<=L.length:=zdU _ _ _
theorem zdV{p:Nat->Bool}{L:List PA}{k:Nat}{x:PA}(h:x∈zaB p L k):∃ i,i < k/\p i=true/\L[i]?=some x:=by
  induction k with
  | zero=>cases h
  | succ k ih=>
    unfold zaB at h
    rcases List.mem_append.1 h with h | h
    . obtain⟨i,h1,h2,h3⟩:=ih h
      exact⟨i,by omega,h2,h3⟩
    . split at h
      . rename_i hp
        rw[Option.mem_toList]at h
        exact⟨k,by omega,hp,h⟩
      . cases h
theorem zn3{p:Nat->Bool}{L:List PA}{k i:Nat}{x:PA}(hi:i < k)(hp:p i=true)(hx:L[i]?=some x):x∈zaB p L k:=by
  induction k with
  | zero=>omega
  | succ k ih=>
    unfold zaB
    rcases Nat.lt_or_ge i k with h | h
    . exact List.mem_append_left _ (ih h)
    . obtain rfl:i=k:=by omega
      refine List.mem_append_right _ ?_
      rw[if_pos hp,hx]
      simp
theorem zn4{p:Nat->Bool}{L:List PA}{i:Nat}{x:PA}(hp:p i=true)(hx:L[i]?=some x):x∈sel p L:=zn3 (List.getElem?_eq_some_iff.1 hx).1 hp hx
theorem zmt(p:Nat->Bool)(L:List PA)(k:Nat)(nm:List UInt8):getA (zaB p L (k+1)) nm=(getA (zaB p L k) nm).or (getA (if p k then (L[k]?).toList else []) nm):=zkh _ _ _
theorem ze5(L:List PA)(nm:List UInt8)(k:Nat)(hk:k<=L.length):getA (zaB (zbm L) L k) nm=if zP L nm < k then getA L nm else none:=by
  induction k with
  | zero=>rw[if_neg (by omega)];rfl
  | succ k ih=>
    rw[zmt,ih (by omega)]
    have hx:L[k]?=some (L[k]'(by omega)):=List.getElem?_eq_getElem _
    generalize L[k]'(by omega)=x at hx
    rw[hx]
    by_cases h:zP L nm < k
    . rw[if_pos h,if_pos (show zP L nm < k+1 by omega)]
      unfold getA
      rw[List.getElem?_eq_getElem (show zP L nm < L.length by omega)]
      rfl
    . rw[if_neg h,Option.none_or]
      have hp:zbm L k=(zP L (nmB x) == k):=zb7 hx
      rw[hp]
      by_cases h2:zP L nm=k
      . rw[if_pos (show zP L nm < k+1 by omega)]
        obtain⟨y,hy,hyn⟩:=zbM (L:=L) (nm:=nm) (by omega)
        rw[h2,hx]at hy
        injection hy with hy
        subst hy
        have hk2:zP L (nmB x)=k:=by rw[hyn];exact h2
        rw[hk2,beq_self_eq_true,if_pos rfl,Option.toList_some,zlp,if_pos hyn]
        unfold getA
        rw[h2,hx]
      . rw[if_neg (show ¬ zP L nm < k+1 by omega)]
        by_cases h3:zP L (nmB x)=k
        . rw[h3,beq_self_eq_true,if_pos rfl,Option.toList_some,zlp,if_neg]
          intro e
          rw[e]at h3
          exact h2 h3
        . rw[beq_eq_false_iff_ne.2 h3,if_neg (by simp),zqW]
theorem zdW(L:List PA)(nm:List UInt8):getA (zH L) nm=getA L nm:=by
  unfold zH sel
  rw[ze5 L nm _ (Nat.le_refl _)]
  split
  . rfl
  . rename_i h
    unfold getA
    rw[List.getElem?_eq_none (by omega)]
theorem zlq{L:List PA}{x:PA}(h:x∈zH L):getA L (nmB x)=some x:=by
  obtain⟨i,_,hp,hx⟩:=zdV h
  have hp':(zP L (nmB x) == i)=true:=(zb7 (f:=fun p=>zP L (nmB p) == i) hx).symm.trans hp
  unfold getA
  rw[beq_iff_eq.1 hp']
  exact hx
theorem zlr{L:List PA}{nm:List UInt8}{x:PA}(h:getA L nm=some x):x∈zH L:=by
  have hn:=zhU h
  unfold getA at h
  refine zn4 (i:=zP L nm) ?_ h
  unfold zbm
  rw[zb7 h,hn]
  simp
def zhV(A B:List PA):List PA:=zn1 (zH A) (zH B)
def zhW(A B:List PA):List PA:=zhT (zH A) (zH B)
def zfl(A B:List PA):Bool:=(zhV A B).isEmpty && (zhW A B).isEmpty
theorem zg5{f:PA->Bool}{L:List PA}{x:PA}(h:x∈sel (isI f L) L):x∈L/\f x=true:=by
  obtain⟨i,_,hp,hx⟩:=zdV h
  rw[zb7 hx]at hp
  exact⟨List.mem_of_getElem? hx,hp⟩
theorem zg6{f:PA->Bool}{L:List PA}{x:PA}(h:x∈L)(hf:f x=true):x∈sel (isI f L) L:=by
  obtain⟨i,hi⟩:=List.mem_iff_getElem?.1 h
  exact zn4 (by rw[zb7 hi];exact hf) hi
theorem ziW{A B:List PA}{x:PA}:x∈zhV A B↔getA B (nmB x)=some x/\getA A (nmB x)≠some x:=by
  unfold zhV zn1
  constructor
  . intro h
    obtain⟨h1,h2⟩:=zg5 h
    refine⟨zlq h1,?_⟩
    unfold putP at h2
    rw[zdW]at h2
    simpa using h2
  . rintro⟨h1,h2⟩
    refine zg6 (zlr h1) ?_
    unfold putP
    rw[zdW]
    simpa using h2
theorem ziX{A B:List PA}{x:PA}:x∈zhW A B↔getA A (nmB x)=some x/\getA B (nmB x)=none:=by
  unfold zhW zhT
  constructor
  . intro h
    obtain⟨h1,h2⟩:=zg5 h
    refine⟨zlq h1,?_⟩
    rw[zdW]at h2
    simpa using h2
  . rintro⟨h1,h2⟩
    refine zg6 (zlr h1) ?_
    rw[zdW,h2]
    rfl
def zdX(b:UInt8):Bool:=decide (65<=b.toNat) && decide (b.toNat<=90)
def lowB(b:UInt8):UInt8:=if zdX b then b+32 else b
theorem zn5(b:UInt8)(w:World) :
    Calls Tryz.prog 169 #[.int .u8 b.toNat] w fun e w'=>e=.returned (.bool (zdX b))/\w=w':=by
  go_enter Tryz.func169,Tryz.ntmps169
  go_wp2
  all_goals
    go_ret
    refine⟨zB ?_,rfl⟩
    unfold zdX
    rw[Bool.eq_iff_iff]
    simp
    try omega
theorem zn6(b x:UInt8)(g:Nat)(w:World)(h:w.cell? ⟨g,0,none⟩=some (.int .u8 x.toNat)) :
    Calls Tryz.prog 164 #[.int .u8 b.toNat,.pointer (some ⟨g,0,none⟩)] w fun e w'=>e=.returned (.bool (b == x))/\w=w':=by
  go_enter Tryz.func164,Tryz.ntmps164
  go_wp2
  go_ret
  refine⟨zB ?_,rfl⟩
  rw[Bool.eq_iff_iff]
  simp [<-UInt8.toNat_inj]
  try omega
theorem zmu(w:World):Sem.run Tryz.prog (zeroValue 185) w=Result.ok (.agg (Array.replicate 256 (.bool false))) w:=by kernel_rfl
def zls(l:List UInt8)(g:Nat)(w0:World)(i:Value)(wr:World):Prop:=
  ∃ k:Nat,k<=l.length/\i=.int .i64 (k:Int)/\(∃ cs,cs.size=256/\Whole wr g 185 cs/\∀ b:UInt8,cs[b.toNat]?=some (.bool ((l.take k).contains b)))/\Below g w0 wr
structure PT where
  tag:Ch
  attrs:List PA
  kids:List PT
  text:Ch
def txT(c:Ch):PT:=⟨[],[],[],c⟩
def addT(out:List PT)(t:PT)(ks:List PT):List PT:=
  if t.tag≠[] then out++ [⟨t.tag,zH t.attrs,ks,[]⟩]
  else if t.text=[] then out
  else match out.getLast? with
    | some x=>if x.tag=[] then out.dropLast++ [txT (x.text++ t.text)] else out++ [txT t.text]
    | none=>out++ [txT t.text]
mutual
def PT.mg:PT->List PT
  | ⟨_,_,kids,_⟩=>mgO [] kids
def mgO:List PT->List PT->List PT
  | out,[]=>out
  | out,t::ts=>mgO (addT out t t.mg) ts
end
def zj(l:List PT):List PT:=mgO [] l
mutual
def PT.wt:PT->Nat
  | ⟨_,_,kids,_⟩=>1+wtL kids
def wtL:List PT->Nat
  | []=>0
  | t::ts=>t.wt+wtL ts
end
def metA(pale:Bool)(p q:PA):Bool:=nmB p == nmB q && p.2.map (·.1) == q.2.map (·.1) && (pale || p == q)
mutual
def PT.same(pale:Bool):PT->PT->Bool
  | ⟨tag,attrs,kids,text⟩,y=>
    tag.map (·.1) == y.tag.map (·.1) && text.map (·.1) == y.text.map (·.1) && attrs.length == y.attrs.length && zfm pale kids y.kids &&
      (pale || (tag == y.tag && text == y.text)) && attrs.all fun p=>y.attrs.any fun q=>metA pale p q
def zfm(pale:Bool):List PT->List PT->Bool
  | [],[]=>true
  | [],_::_=>false
  | _::_,[]=>false
  | x::xs,y::ys=>x.same pale y && zfm pale xs ys
end
theorem PT.eta(t:PT):t=⟨t.tag,t.attrs,t.kids,t.text⟩:=by cases t;rfl
theorem PT.mg_eq(t:PT):t.mg=zj t.kids:=by cases t;rw[PT.mg];rfl
theorem PT.wt_eq(t:PT):t.wt=1+wtL t.kids:=by cases t;rw[PT.wt]
theorem PT.same_eq(pale:Bool)(x y:PT):x.same pale y=(x.tag.map (·.1) == y.tag.map (·.1) && x.text.map (·.1) == y.text.map (·.1) && x.attrs.length == y.attrs.length && zfm pale x.kids y.kids &&
      (pale || (x.tag == y.tag && x.text == y.text)) && x.attrs.all fun p=>y.attrs.any fun q=>metA pale p q):=by cases x;rw[PT.same]
theorem zg7(ts us:List PT):∀ out,mgO out (ts++ us)=mgO (mgO out ts) us:=by
  induction ts with
  | nil=>intro out;rw[List.nil_append,mgO]
  | cons t ts ih=>intro out;rw[List.cons_append,mgO,mgO,ih]
theorem zlt(out ts:List PT)(t:PT):mgO out (ts++ [t])=addT (mgO out ts) t t.mg:=by rw[zg7,mgO,mgO]
theorem zX(ts:List PT)(t:PT):zj (ts++ [t])=addT (zj ts) t (zj t.kids):=by rw[<-PT.mg_eq];exact zlt [] ts t
theorem zqX{L:List PT}{t:PT}(h:t∈L):wtL t.kids < wtL L:=by
  induction L with
  | nil=>cases h
  | cons x L ih=>
    rw[wtL]
    rcases List.mem_cons.1 h with rfl | h
    . have:=t.wt_eq;omega
    . have:=ih h;omega
theorem zhX(L:List PT):L.length<=wtL L:=by
  induction L with
  | nil=>exact Nat.zero_le _
  | cons x L ih=>rw[wtL,List.length_cons];have:=x.wt_eq;omega
theorem PT.ind{p:List PT->Prop}(h:∀ L,(∀ t∈L,p t.kids)->p L):∀ L,p L:=by
  have key:∀ n L,wtL L < n->p L:=by
    intro n
    induction n with
    | zero=>intro L h0;omega
    | succ n ih=>intro L hl;exact h L fun t ht=>ih _ (by have:=zqX ht;omega)
  exact fun L=>key _ L (Nat.lt_succ_self _)
def zeq(out m:List PT):List PT:=
  match out.getLast?,m with
  | some x,y::ys=>if x.tag=[]/\y.tag=[] then out.dropLast++ txT (x.text++ y.text)::ys else out++ y::ys
  | _,_=>out++ m
theorem zbJ{t:PT}(h:t.tag≠[])(out ks:List PT):addT out t ks=out++ [⟨t.tag,zH t.attrs,ks,[]⟩]:=if_pos h
theorem zcg{t:PT}(h:t.tag=[])(h2:t.text=[])(out ks:List PT):addT out t ks=out:=by unfold addT;rw[if_neg (by simp [h]),if_pos h2]
theorem za0{t:PT}(h:t.tag=[])(h2:t.text≠[])(ks:List PT):addT [] t ks=[txT t.text]:=by unfold addT;rw[if_neg (by simp [h]),if_neg h2];rfl
theorem zbr{t:PT}(h:t.tag=[])(h2:t.text≠[])(out:List PT)(x:PT)(hx:x.tag=[])(ks:List PT):addT (out++ [x]) t ks=out++ [txT (x.text++ t.text)]:=by
  unfold addT;rw[if_neg (by simp [h]),if_neg h2,List.getLast?_concat];simp only[hx,if_true,List.dropLast_concat]
theorem zby{t:PT}(h:t.tag=[])(h2:t.text≠[])(out:List PT)(x:PT)(hx:x.tag≠[])(ks:List PT):addT (out++ [x]) t ks=out++ [x]++ [txT t.text]:=by
  unfold addT;rw[if_neg (by simp [h]),if_neg h2,List.getLast?_concat];simp only[if_neg hx]
theorem zas{α:Type}(l:List α):l=[]\/∃ xs x,l=xs++ [x]:=by
  rcases l.eq_nil_or_concat with h | ⟨xs,x,h⟩
  . exact .inl h
  . exact .inr ⟨xs,x,by rw[h,List.concat_eq_append]⟩
theorem ziY(L:List PA)(k:Nat):((zaB (zbm L) L k).map nmB).Nodup:=by
  induction k with
  | zero=>exact List.nodup_nil
  | succ k ih=>
    unfold zaB
    cases hp:zbm L k with
    | false=>simpa using ih
    | true=>
      cases hx:L[k]? with
      | none=>simpa using ih
      | some x=>
        have hk:zP L (nmB x)=k:=by
          unfold zbm at hp
          rw[zb7 hx]at hp
          exact beq_iff_eq.1 hp
        simp only[if_true,Option.toList_some,List.map_append,List.map_cons,List.map_nil]
        rw[List.nodup_append]
        refine⟨ih,by simp,?_⟩
        intro a ha b hb hab
        simp only[List.mem_singleton]at hb
        obtain⟨y,hy,rfl⟩:=List.mem_map.1 ha
        obtain⟨i,hi,hpi,hyi⟩:=zdV hy
        unfold zbm at hpi
        rw[zb7 hyi]at hpi
        have:=beq_iff_eq.1 hpi
        rw[hab,hb,hk]at this
        omega
theorem ziZ(L:List PA):((zH L).map nmB).Nodup:=ziY L _
theorem zdi{M:List PA}(h:(M.map nmB).Nodup){i:Nat}{x:PA}(hx:M[i]?=some x):zP M (nmB x)=i:=by
  refine zdT hx rfl fun j q hj hq e=>?_
  have h1:(M.map nmB)[j]?=some (nmB q):=by rw[List.getElem?_map,hq];rfl
  have h2:(M.map nmB)[i]?=some (nmB x):=by rw[List.getElem?_map,hx];rfl
  have h3:j=i:=(List.getElem?_inj (List.getElem?_eq_some_iff.1 h1).1 h).1 (by rw[h1,h2,e])
  omega
theorem zi0{M:List PA}(h:(M.map nmB).Nodup):zH M=M:=by
  have key:∀ k,k<=M.length->zaB (zbm M) M k=M.take k:=by
    intro k
    induction k with
    | zero=>intro _;simp [zaB]
    | succ k ih=>
      intro hk
      have hx:M[k]?=some (M[k]'(by omega)):=List.getElem?_eq_getElem _
      generalize M[k]'(by omega)=x at hx
      rw[zbq hx,ih (by omega),zC hx]
      have:zbm M k=true:=by
        unfold zbm
        rw[zb7 hx,zdi h hx]
        simp
      rw[if_pos this]
  unfold zH sel
  rw[key _ (Nat.le_refl _),List.take_length]
theorem zfW(L:List PA):zH (zH L)=zH L:=zi0 (ziZ L)
def okT(x:PT):Prop:=(x.tag=[]->x=txT x.text/\x.text≠[])/\(x.tag≠[]->x.text=[])
theorem zn7{c:Ch}(h:c≠[]):okT (txT c):=⟨fun _=>⟨rfl,h⟩,fun h=>absurd rfl h⟩
theorem zsZ{out:List PT}(h:∀ x∈out,okT x)(t:PT)(ks:List PT):∀ x∈addT out t ks,okT x:=by
  by_cases ht:t.tag=[]
  . by_cases hx:t.text=[]
    . rw[zcg ht hx];exact h
    . rcases zas out with rfl | ⟨xs,y,rfl⟩
      . rw[za0 ht hx]
        intro x hm
        simp at hm;subst hm
        exact zn7 hx
      . by_cases hy:y.tag=[]
        . rw[zbr ht hx xs y hy]
          intro x hm
          rcases List.mem_append.1 hm with hm | hm
          . exact h x (List.mem_append_left _ hm)
          . simp at hm;subst hm
            exact zn7 (by simp [hx])
        . rw[zby ht hx xs y hy]
          intro x hm
          rcases List.mem_append.1 hm with hm | hm
          . exact h x hm
          . simp at hm;subst hm
            exact zn7 hx
  . rw[zbJ ht]
    intro x hm
    rcases List.mem_append.1 hm with hm | hm
    . exact h x hm
    . simp at hm;subst hm
      exact⟨fun e=>absurd e ht,fun _=>rfl⟩
theorem zlu(L:List PT):∀ x∈zj L,okT x:=by
  induction L using za1 with
  | nil=>intro x hx;cases hx
  | append_singleton ts t ih=>rw[zX];exact zsZ ih t _
theorem zfs(out:List PT):zeq out []=out:=by unfold zeq;cases out.getLast?<;>simp
theorem zdY(m:List PT):zeq [] m=m:=rfl
theorem zc2(xs:List PT)(x y:PT)(ys:List PT):zeq (xs++ [x]) (y::ys)=if x.tag=[]/\y.tag=[] then xs++ txT (x.text++ y.text)::ys else xs++ [x]++ y::ys:=by
  unfold zeq;rw[List.getLast?_concat,List.dropLast_concat]
theorem zc3(out:List PT){M:List PT}(h:M≠[])(z:PT):zeq out (M++ [z])=zeq out M++ [z]:=by
  cases M with
  | nil=>exact absurd rfl h
  | cons y ys=>
    rcases zas out with rfl | ⟨xs,x,rfl⟩
    . rfl
    . rw[List.cons_append,zc2,zc2]
      split<;>simp
theorem zqY(out M:List PT)(t:PT)(ks:List PT):addT (zeq out M) t ks=zeq out (addT M t ks):=by
  by_cases ht:t.tag=[]
  . by_cases hx:t.text=[]
    . rw[zcg ht hx,zcg ht hx]
    . rcases zas M with rfl | ⟨ms,m,rfl⟩
      . rw[zfs,za0 ht hx]
        rcases zas out with rfl | ⟨xs,y,rfl⟩
        . rw[za0 ht hx,zdY]
        . rw[zc2]
          by_cases hy:y.tag=[]
          . rw[zbr ht hx xs y hy,if_pos ⟨hy,rfl⟩];rfl
          . rw[zby ht hx xs y hy,if_neg (fun h=>hy h.1)]
      . by_cases hm:m.tag=[]
        . rw[zbr ht hx ms m hm]
          by_cases hms:ms=[]
          . subst hms
            rw[List.nil_append,List.nil_append]
            rcases zas out with rfl | ⟨xs,y,rfl⟩
            . rw[zdY,zdY];exact zbr ht hx [] m hm ks
            . rw[zc2,zc2]
              by_cases hy:y.tag=[]
              . rw[if_pos ⟨hy,hm⟩,if_pos ⟨hy,rfl⟩]
                have h1:=zbr ht hx xs (txT (y.text++ m.text)) rfl ks
                rw[h1]
                show xs++ [txT (y.text++ m.text++ t.text)]=xs++ [txT (y.text++ (m.text++ t.text))]
                rw[List.append_assoc]
              . rw[if_neg (fun h=>hy h.1),if_neg (fun h=>hy h.1)]
                exact zbr ht hx (xs++ [y]) m hm ks
          . rw[zc3 out hms,zc3 out hms,zbr ht hx _ m hm]
        . rw[zby ht hx ms m hm,zc3 out (M:=ms++ [m]) (by simp) (txT t.text)]
          have:∃ P,zeq out (ms++ [m])=P++ [m]:=by
            by_cases hms:ms=[]
            . subst hms
              rw[List.nil_append]
              rcases zas out with rfl | ⟨xs,y,rfl⟩
              . exact⟨[],rfl⟩
              . rw[zc2,if_neg (fun h=>hm h.2)];exact⟨xs++ [y],rfl⟩
            . exact⟨_,zc3 out hms m⟩
          obtain⟨P,hP⟩:=this
          rw[hP,zby ht hx P m hm]
  . rw[zbJ ht,zbJ ht]
    by_cases hM:M=[]
    . subst hM
      rw[zfs,List.nil_append]
      rcases zas out with rfl | ⟨xs,y,rfl⟩
      . rfl
      . rw[zc2,if_neg (fun h=>ht h.2)]
    . rw[zc3 out hM]
theorem zqZ(out b:List PT):mgO out b=zeq out (zj b):=by
  induction b using za1 with
  | nil=>unfold zj;rw[mgO,mgO,zfs]
  | append_singleton ts t ih=>rw[zlt,ih,zX,PT.mg_eq,zqY]
theorem zaI(a b:List PT):zj (a++ b)=zeq (zj a) (zj b):=by
  unfold zj
  rw[zg7,zqZ]
  rfl
theorem zfX:∀ L:List PT,zj (zj L)=zj L:=by
  apply PT.ind
  intro L hk
  induction L using za1 with
  | nil=>rfl
  | append_singleton ts t ih=>
    have ih:=ih fun x hx=>hk x (List.mem_append_left _ hx)
    have hkt:=hk t (by simp)
    have hok:=zlu ts
    rw[zX]
    generalize zj ts=M at *
    by_cases ht:t.tag=[]
    . by_cases hx:t.text=[]
      . rw[zcg ht hx];exact ih
      . have hone:∀ c:Ch,c≠[]->∀ N,(N=[]\/∃ P p,N=P++ [p]/\p.tag≠[])->addT N (txT c) []=N++ [txT c]:=by
          intro c hc N hN
          rcases hN with rfl | ⟨P,p,rfl,hp⟩
          . exact za0 rfl hc []
          . exact zby rfl hc P p hp []
        have hmk:∀ c:Ch,zj (txT c).kids=[]:=fun _=>rfl
        rcases zas M with rfl | ⟨ms,m,rfl⟩
        . rw[za0 ht hx]
          have h1:=zX [] (txT t.text)
          rw[List.nil_append,hmk]at h1
          rw[h1]
          exact hone _ hx _ (.inl rfl)
        . by_cases hm:m.tag=[]
          . rw[zbr ht hx ms m hm]
            obtain⟨hm1,hm2⟩:=(hok m (by simp)).1 hm
            have h1:=ih
            rw[zX]at h1
            have hms:=zlu ms
            have key:zj ms=ms/\(ms=[]\/∃ P p,ms=P++ [p]/\p.tag≠[]):=by
              rcases zas (zj ms)with h2 | ⟨P,p,h2⟩
              . rw[h2,za0 hm hm2]at h1
                have h3:ms=[]:=by
                  have:=congrArg List.length h1
                  rw[List.length_append]at this
                  simp only[List.length_cons,List.length_nil]at this
                  exact List.eq_nil_of_length_eq_zero (by omega)
                exact⟨h2.trans h3.symm,.inl h3⟩
              . by_cases hp:p.tag=[]
                . rw[h2,zbr hm hm2 P p hp]at h1
                  have h3:=(List.append_inj' h1 rfl).2
                  have h4:(txT (p.text++ m.text)).text=m.text:=by injection h3 with h3;rw[h3]
                  have h5:p.text++ m.text=m.text:=h4
                  have h6:p.text=[]:=by
                    have:=congrArg List.length h5
                    rw[List.length_append]at this
                    exact List.eq_nil_of_length_eq_zero (by omega)
                  rw[h2]at hms
                  exact absurd h6 ((hms p (by simp)).1 hp).2
                . rw[h2,zby hm hm2 P p hp]at h1
                  have h3:=(List.append_inj' h1 rfl).1
                  exact⟨h2.trans h3,.inr ⟨P,p,h3.symm,hp⟩⟩
            have h7:=zX ms (txT (m.text++ t.text))
            rw[hmk,key.1]at h7
            rw[h7]
            exact hone _ (by simp [hx]) _ key.2
          . rw[zby ht hx ms m hm]
            have h7:=zX (ms++ [m]) (txT t.text)
            rw[hmk,ih]at h7
            rw[h7]
            exact hone _ hx _ (.inr ⟨ms,m,rfl,hm⟩)
    . rw[zbJ ht,zX,ih,zbJ (t:=⟨t.tag,zH t.attrs,zj t.kids,[]⟩) ht]
      show M++ [⟨t.tag,zH (zH t.attrs),zj (zj t.kids),[]⟩]=_
      rw[zfW,hkt]
theorem zn8(pale:Bool)(p:PA):metA pale p p=true:=by unfold metA;simp
theorem zn9(pale:Bool):∀ L:List PT,zfm pale L L=true:=by
  apply PT.ind
  intro L hk
  induction L with
  | nil=>rw[zfm]
  | cons x xs ih=>
    rw[zfm,ih fun t ht=>hk t (List.mem_cons_of_mem _ ht),PT.same_eq,hk x (by simp)]
    simp only[beq_self_eq_true,Bool.and_self,Bool.or_true,Bool.and_true,Bool.true_and]
    rw[List.all_eq_true]
    intro p hp
    rw[List.any_eq_true]
    exact⟨p,hp,zn8 pale p⟩
mutual
def PT.bk:PT->Nat
  | ⟨tag,attrs,kids,text⟩=>tag.length+attrs.length+text.length+1+bkL kids
def bkL:List PT->Nat
  | []=>0
  | t::ts=>t.bk+bkL ts
end
theorem PT.bk_eq(t:PT):t.bk=t.tag.length+t.attrs.length+t.text.length+1+bkL t.kids:=by cases t;rw[PT.bk]
theorem zam(ts us:List PT):bkL (ts++ us)=bkL ts+bkL us:=by
  induction ts with
  | nil=>simp [bkL]
  | cons t ts ih=>rw[List.cons_append,bkL,bkL,ih];omega
theorem zbs(t:PT):bkL [t]=t.bk:=by rw[bkL,bkL];omega
theorem zoa{L:List PT}{t:PT}(h:t∈L):t.bk<=bkL L:=by
  induction L with
  | nil=>cases h
  | cons x L ih=>
    rw[bkL]
    rcases List.mem_cons.1 h with rfl | h
    . omega
    . have:=ih h;omega
theorem zlv{L:List PT}{t:PT}(h:t∈L):bkL t.kids < bkL L:=by
  have:=zoa h
  have:=t.bk_eq
  omega
theorem zaJ(L:List PT):L.length<=bkL L:=by
  induction L with
  | nil=>exact Nat.zero_le _
  | cons x L ih=>rw[bkL,List.length_cons];have:=x.bk_eq;omega
theorem zs0(L:List PT)(k:Nat):bkL (L.take k)<=bkL L:=by
  have:=zam (L.take k) (L.drop k)
  rw[List.take_append_drop]at this
  omega
theorem bk_wt:∀ L:List PT,wtL L<=bkL L:=by
  apply PT.ind
  intro L hk
  induction L with
  | nil=>rw[wtL];exact Nat.zero_le _
  | cons x L ih=>
    have h1:=ih fun t ht=>hk t (List.mem_cons_of_mem _ ht)
    have h2:=hk x (by simp)
    rw[wtL,bkL,PT.wt_eq,PT.bk_eq]
    omega
theorem zuq(out ks:List PT)(t:PT)(hk:bkL ks<=bkL t.kids):bkL (addT out t ks)<=bkL out+t.bk:=by
  have hbk:=t.bk_eq
  by_cases ht:t.tag=[]
  . by_cases hx:t.text=[]
    . rw[zcg ht hx];omega
    . rcases zas out with rfl | ⟨xs,y,rfl⟩
      . rw[za0 ht hx,zbs,PT.bk_eq]
        simp only[txT,List.length_nil,bkL]
        omega
      . by_cases hy:y.tag=[]
        . rw[zbr ht hx xs y hy,zam,zam,zbs,zbs,PT.bk_eq,y.bk_eq]
          simp only[txT,List.length_nil,bkL,List.length_append]
          omega
        . rw[zby ht hx xs y hy,zam,zbs (txT _),PT.bk_eq]
          simp only[txT,List.length_nil,bkL]
          omega
  . rw[zbJ ht,zam,zbs,PT.bk_eq]
    have:=zdD (zbm t.attrs) t.attrs
    have h2:(zH t.attrs).length<=t.attrs.length:=this
    simp only[List.length_nil]
    omega
theorem zdZ:∀ L:List PT,bkL (zj L)<=bkL L:=by
  apply PT.ind
  intro L hk
  induction L using za1 with
  | nil=>exact Nat.le_refl _
  | append_singleton ts t ih=>
    rw[zX,zam,zbs]
    have h1:=ih fun x hx=>hk x (List.mem_append_left _ hx)
    have h2:=zuq (zj ts) (zj t.kids) t (hk t (by simp))
    omega
structure KP where
  kind:Int
  name:Ch
  attrs:List PA
  text:Ch
abbrev Nm:=List UInt8
def KP.nm(t:KP):Nm:=t.name.map (·.1)
def zi1(s:Nm):Bool:=s == [98,114] || (s == [104,114] || s == [105,109,103])
theorem drop_one{α:Type}{L:List α}{k:Nat}{t:α}(h:L[k]?=some t):L.drop k=t::L.drop (k+1):=by
  obtain⟨hk,h2⟩:=List.getElem?_eq_some_iff.1 h
  rw[List.drop_eq_getElem_cons hk,h2]
theorem zlw{α:Type}{L:List α}{k:Nat}(h:L[k]?=none):L.drop k=[]:=List.drop_of_length_le (List.getElem?_eq_none_iff.1 h)
def zg8(l:List Nm)(x:Nm):Nat->Int
  | 0=>-1
  | k+1=>if l[k]?=some x then (k:Int) else zg8 l x k
def zd0(l:List Nm)(x:Nm):Int:=zg8 l x l.length
theorem zhY(l:List Nm)(y x:Nm):∀ k,k<=l.length->zg8 (l++ [y]) x k=zg8 l x k:=by
  intro k
  induction k with
  | zero=>intro _;rfl
  | succ k ih=>
    intro h
    unfold zg8
    rw[List.getElem?_append_left (by omega),ih (by omega)]
theorem zer(l:List Nm)(y x:Nm):zd0 (l++ [y]) x=if y=x then (l.length:Int) else zd0 l x:=by
  unfold zd0
  rw[List.length_append]
  show(if (l++ [y])[l.length]?=some x then (l.length:Int) else zg8 (l++ [y]) x l.length)=_
  rw[List.getElem?_concat_length,zhY l y x _ (Nat.le_refl _)]
  by_cases h:y=x
  . rw[if_pos h,if_pos (by rw[h])]
  . rw[if_neg h,if_neg (fun e=>h (by injection e))]
theorem zob(x:Nm):zd0 [] x=-1:=rfl
theorem zki(l:List Nm)(x:Nm):(zd0 l x=-1/\x ∉ l)\/(0<=zd0 l x/\zd0 l x < (l.length:Int)/\x∈l):=by
  induction l using za1 with
  | nil=>exact Or.inl ⟨rfl,by simp⟩
  | append_singleton l y ih=>
    rw[zer,List.length_append]
    by_cases h:y=x
    . rw[if_pos h]
      refine Or.inr ⟨by omega,?_,by rw[h];simp⟩
      show(l.length:Int) < ((l.length+1:Nat):Int)
      omega
    . rw[if_neg h]
      rcases ih with ih | ih
      . refine Or.inl ⟨ih.1,fun hm=>?_⟩
        rcases List.mem_append.1 hm with hm | hm
        . exact ih.2 hm
        . exact h (by simpa using hm:x=y).symm
      . refine Or.inr ⟨ih.1,?_,List.mem_append_left _ ih.2.2⟩
        have:=ih.2.1
        show zd0 l x < ((l.length+1:Nat):Int)
        omega
theorem zi2{l:List Nm}{x:Nm}:0<=zd0 l x↔x∈l:=by
  rcases zki l x with h | h
  . exact⟨fun h2=>by omega,fun h2=>absurd h2 h.2⟩
  . exact⟨fun _=>h.2.2,fun _=>h.1⟩
def nmT(t:PT):Nm:=t.tag.map (·.1)
def zI(top:PT)(loose:List PT):PT:=⟨top.tag,top.attrs,top.kids++ zj loose,[]⟩
def zaW(a t:PT):PT:=⟨a.tag,a.attrs,a.kids++ [t],[]⟩
structure BS where
  top:PT
  loose:List PT
  anc:List PT
def BS.names(s:BS):List Nm:=(s.anc.reverse++ [s.top]).tail.map nmT
def endB(top:PT)(loose:List PT)(a:PT)(anc:List PT):BS:=⟨zaW a (zI top loose),[],anc⟩
def zbg(x:Nm):PT->List PT->List PT->BS
  | top,loose,[]=>⟨top,loose,[]⟩
  | top,loose,a::anc=>if nmT top=x then endB top loose a anc else zbg x (zaW a (zI top loose)) [] anc
def zaQ:PT->List PT->List PT->List PT
  | top,loose,[]=>top.kids++ zj loose
  | top,loose,a::anc=>zaQ (zaW a (zI top loose)) [] anc
def zan(s:BS)(t:KP):BS:=
  if t.kind=1 then
    (if t.name=[] then s
    else if zi1 t.nm then ⟨s.top,s.loose++ [⟨t.name,t.attrs,[],[]⟩],s.anc⟩
    else ⟨⟨t.name,zH t.attrs,[],[]⟩,[],zI s.top s.loose::s.anc⟩)
  else if t.kind=2 then (if t.nm∈s.names then zbg t.nm s.top s.loose s.anc else s)
  else if t.kind=3 then ⟨s.top,s.loose++ [txT t.text],s.anc⟩
  else s
def runB(s:BS)(l:List KP):BS:=l.foldl zan s
def zaU:BS:=⟨⟨[],[],[],[]⟩,[],[]⟩
def finB(s:BS)(l:List KP):List PT:=zaQ (runB s l).top (runB s l).loose (runB s l).anc
def zb8(l:List KP):List PT:=finB zaU l
theorem zbT(s:BS)(t:KP)(l:List KP):finB s (t::l)=finB (zan s t) l:=rfl
theorem zcq(top top1:PT)(loose loose1:List PT)(a:PT)(anc:List PT)(h:nmT a=nmT top):(BS.mk top1 loose1 (a::anc)).names=(BS.mk top loose anc).names++ [nmT top1]:=by
  unfold BS.names
  show((a::anc).reverse++ [top1]).tail.map nmT=_
  rw[List.reverse_cons]
  cases hr:anc.reverse with
  | nil=>rfl
  | cons b bs=>
    show((b::bs++ [a]++ [top1]).tail).map nmT=((b::bs++ [top]).tail).map nmT++ _
    simp [h]
theorem zes{s s':BS}(h1:s'.anc=s.anc)(h2:s'.top.tag=s.top.tag):s'.names=s.names:=by
  unfold BS.names
  rw[h1]
  have:nmT s'.top=nmT s.top:=by unfold nmT;rw[h2]
  cases s.anc.reverse with
  | nil=>rfl
  | cons b bs=>simp [this]
def zd1(L:List KP)(a:Nat)(op:List Nm)(x:Nm):Bool:=
  match L[a]? with
  | none=>false
  | some u=>decide (zd0 op u.nm < 0) || u.nm == x
inductive KidsR (L:List KP):Nat->List Nm->List PT->List PT->Nat->Prop where
  | stop {i:Nat} {op:List Nm} {acc:List PT} (h:L[i]?=none):KidsR L i op acc acc i
  | void {i j:Nat} {op:List Nm} {acc out:List PT} {t:KP} (h:L[i]?=some t) (h1:t.kind=1) (h2:t.name≠[]) (h3:zi1 t.nm=true) (hr:KidsR L (i+1) op (acc++ [⟨t.name,t.attrs,[],[]⟩]) out j):KidsR L i op acc out j
  | elem {i j a:Nat} {op:List Nm} {acc ks out:List PT} {t:KP} (h:L[i]?=some t) (h1:t.kind=1) (h2:t.name≠[]) (h3:zi1 t.nm=false) (hk:KidsR L (i+1) (op++ [t.nm]) [] ks a)
      (hr:KidsR L (if zd1 L a op t.nm=true then a+1 else a) op (acc++ [⟨t.name,t.attrs,ks,[]⟩]) out j):KidsR L i op acc out j
  | ended {i:Nat} {op:List Nm} {acc:List PT} {t:KP} (h:L[i]?=some t) (h1:t.kind=2) (h2:0<=zd0 op t.nm):KidsR L i op acc acc i
  | data {i j:Nat} {op:List Nm} {acc out:List PT} {t:KP} (h:L[i]?=some t) (h1:t.kind=3) (hr:KidsR L (i+1) op (acc++ [txT t.text]) out j):KidsR L i op acc out j
  | other {i j:Nat} {op:List Nm} {acc out:List PT} {t:KP} (h:L[i]?=some t) (h1:t.kind=1->t.name=[]) (h2:t.kind=2->zd0 op t.nm < 0) (h3:t.kind≠3) (hr:KidsR L (i+1) op acc out j):KidsR L i op acc out j
theorem KidsR.last{L:List KP}{i j:Nat}{op:List Nm}{acc out:List PT}(h:KidsR L i op acc out j):L[j]?=none\/∃ u,L[j]?=some u/\u.kind=2/\0<=zd0 op u.nm:=by
  induction h with
  | stop h=>exact Or.inl h
  | void _ _ _ _ _ ih=>exact ih
  | elem _ _ _ _ _ _ _ ih=>exact ih
  | ended h h1 h2=>exact Or.inr ⟨_,h,h1,h2⟩
  | data _ _ _ ih=>exact ih
  | other _ _ _ _ _ ih=>exact ih
def SimB(acc:List PT)(top:PT)(loose:List PT):Prop:=∃ Kr,acc=Kr++ loose/\zj Kr=top.kids/\(top.kids=[]\/∃ P p,top.kids=P++ [p]/\p.tag≠[])
theorem SimB.merge{acc:List PT}{top:PT}{loose:List PT}(h:SimB acc top loose):zj acc=top.kids++ zj loose:=by
  obtain⟨Kr,rfl,h1,h2⟩:=h
  rw[zaI,h1]
  rcases h2 with h2 | ⟨P,p,h2,h3⟩
  . rw[h2,zdY];rfl
  . rw[h2]
    cases zj loose with
    | nil=>rw[zfs,List.append_nil]
    | cons y ys=>rw[zc2,if_neg (fun h=>h3 h.1)]
theorem SimB.more{acc:List PT}{top:PT}{loose:List PT}(h:SimB acc top loose)(x:PT):SimB (acc++ [x]) top (loose++ [x]):=by
  obtain⟨Kr,rfl,h1,h2⟩:=h
  exact⟨Kr,by rw[List.append_assoc],h1,h2⟩
theorem SimB.elem{acc ks:List PT}{top top2:PT}{loose loose2:List PT}{t:KP}(h:SimB acc top loose)(h2:SimB ks top2 loose2)(hn:t.name≠[])(ht:top2.tag=t.name)(ha:top2.attrs=zH t.attrs) :
    SimB (acc++ [⟨t.name,t.attrs,ks,[]⟩]) (zaW (zI top loose) (zI top2 loose2)) []:=by
  refine⟨acc++ [⟨t.name,t.attrs,ks,[]⟩],by rw[List.append_nil],?_,Or.inr ⟨top.kids++ zj loose,zI top2 loose2,rfl,by show top2.tag≠[];rw[ht];exact hn⟩⟩
  rw[zX,zbJ (t:=⟨t.name,t.attrs,ks,[]⟩) hn,h.merge]
  show _++ [PT.mk t.name (zH t.attrs) (zj ks) []]=(top.kids++ zj loose)++ [PT.mk top2.tag top2.attrs (top2.kids++ zj loose2) []]
  rw[ht,ha,h2.merge]
theorem zbU{x:Nm}{top:PT}{loose:List PT}{a:PT}{anc:List PT}(h:nmT top=x):zbg x top loose (a::anc)=endB top loose a anc:=if_pos h
theorem zcr{x:Nm}{top:PT}{loose:List PT}{a:PT}{anc:List PT}(h:¬ nmT top=x):zbg x top loose (a::anc)=zbg x (zaW a (zI top loose)) [] anc:=if_neg h
theorem zd2{s:BS}{t:KP}(h:t.kind=2):zan s t=if t.nm∈s.names then zbg t.nm s.top s.loose s.anc else s:=by
  unfold zan
  rw[if_neg (by rw[h];decide),if_pos h]
theorem zfY{s:BS}{t:KP}(h1:t.kind=1->t.name=[])(h2:t.kind=2->t.nm ∉ s.names)(h3:t.kind≠3):zan s t=s:=by
  unfold zan
  by_cases k1:t.kind=1
  . rw[if_pos k1,if_pos (h1 k1)]
  . rw[if_neg k1]
    by_cases k2:t.kind=2
    . rw[if_pos k2,if_neg (h2 k2)]
    . rw[if_neg k2,if_neg h3]
theorem zq0{L:List KP}{i j:Nat}{op:List Nm}{acc out:List PT}(h:KidsR L i op acc out j):∀ s:BS,s.names=op->SimB acc s.top s.loose->
    ∃ s':BS,s'.anc=s.anc/\s'.top.tag=s.top.tag/\s'.top.attrs=s.top.attrs/\SimB out s'.top s'.loose/\finB s (L.drop i)=finB s' (L.drop j):=by
  induction h with
  | stop h=>intro s _ hs;exact⟨s,rfl,rfl,rfl,hs,rfl⟩
  | ended h _ _=>intro s _ hs;exact⟨s,rfl,rfl,rfl,hs,rfl⟩
  | @void i j op acc out t h h1 h2 h3 hr ih=>
    intro s hn hs
    have e:zan s t=⟨s.top,s.loose++ [⟨t.name,t.attrs,[],[]⟩],s.anc⟩:=by unfold zan;rw[if_pos h1,if_neg h2,if_pos h3]
    obtain⟨s',a1,a2,a3,a4,a5⟩:=ih (zan s t) (by rw[e];exact(zes rfl rfl).trans hn) (by rw[e];exact hs.more _)
    rw[e]at a1 a2 a3
    exact⟨s',a1,a2,a3,a4,by rw[drop_one h,zbT];exact a5⟩
  | @data i j op acc out t h h1 hr ih=>
    intro s hn hs
    have e:zan s t=⟨s.top,s.loose++ [txT t.text],s.anc⟩:=by unfold zan;rw[if_neg (by rw[h1];decide),if_neg (by rw[h1];decide),if_pos h1]
    obtain⟨s',a1,a2,a3,a4,a5⟩:=ih (zan s t) (by rw[e];exact(zes rfl rfl).trans hn) (by rw[e];exact hs.more _)
    rw[e]at a1 a2 a3
    exact⟨s',a1,a2,a3,a4,by rw[drop_one h,zbT];exact a5⟩
  | @other i j op acc out t h h1 h2 h3 hr ih=>
    intro s hn hs
    have e:zan s t=s:=zfY h1 (fun k hm=>by rw[hn]at hm;have:=zi2.2 hm;have:=h2 k;omega) h3
    obtain⟨s',a1,a2,a3,a4,a5⟩:=ih s hn hs
    exact⟨s',a1,a2,a3,a4,by rw[drop_one h,zbT,e];exact a5⟩
  | @elem i j a op acc ks out t h h1 h2 h3 hk hr ih1 ih2=>
    intro s hn hs
    have e:zan s t=⟨⟨t.name,zH t.attrs,[],[]⟩,[],zI s.top s.loose::s.anc⟩:=by unfold zan;rw[if_pos h1,if_neg h2,if_neg (by rw[h3];decide)]
    obtain⟨s2,a1,a2,a3,a4,a5⟩:=ih1 (zan s t) (by
      rw[e,zcq s.top ⟨t.name,zH t.attrs,[],[]⟩ s.loose [] (zI s.top s.loose) s.anc rfl,show(BS.mk s.top s.loose s.anc).names=s.names from rfl,hn]
      rfl) (by rw[e];exact⟨[],rfl,rfl,Or.inl rfl⟩)
    rw[e]at a1 a2 a3 a5
    simp only at a1 a2 a3
    have hsim:=SimB.elem hs a4 h2 a2 a3
    have hn3:(BS.mk (zaW (zI s.top s.loose) (zI s2.top s2.loose)) [] s.anc).names=op:=(zes (s:=s) (s':=⟨zaW (zI s.top s.loose) (zI s2.top s2.loose),[],s.anc⟩) rfl rfl).trans hn
    obtain⟨s',b1,b2,b3,b4,b5⟩:=ih2 ⟨zaW (zI s.top s.loose) (zI s2.top s2.loose),[],s.anc⟩ hn3 hsim
    refine⟨s',b1,b2,b3,b4,?_⟩
    rw[drop_one h,zbT,e,a5,<-b5]
    have hnm:nmT s2.top=t.nm:=by unfold nmT KP.nm;rw[a2]
    have hnames2:s2.names=op++ [t.nm]:=by
      have h5:=zcq s.top s2.top s.loose s2.loose (zI s.top s.loose) s.anc rfl
      rw[show(BS.mk s.top s.loose s.anc).names=s.names from rfl,hn,hnm]at h5
      rw[<-h5,<-a1]
    rcases hk.last with h0 | ⟨u,hu,hu2,hul⟩
    . have hb:zd1 L a op t.nm=false:=by unfold zd1;rw[h0]
      rw[if_neg (by rw[hb];decide),zlw h0]
      show zaQ s2.top s2.loose s2.anc=zaQ _ [] s.anc
      rw[a1,zaQ]
      rfl
    . rw[zer]at hul
      by_cases hx:t.nm=u.nm
      . have hb:zd1 L a op t.nm=true:=by unfold zd1;rw[hu];show(_ || _)=true;rw[beq_iff_eq.2 hx.symm,Bool.or_true]
        rw[if_pos hb,drop_one hu,zbT,zd2 hu2,if_pos (by rw[hnames2,<-hx];simp),a1,zbU (hnm.trans hx)]
        rfl
      . rw[if_neg hx]at hul
        have hb:zd1 L a op t.nm=false:=by
          unfold zd1
          rw[hu]
          show(_ || _)=false
          rw[decide_eq_false (by omega),beq_eq_false_iff_ne.2 (fun e=>hx e.symm)]
          rfl
        have hm:u.nm∈op:=zi2.1 hul
        rw[if_neg (by rw[hb];decide),drop_one hu,zbT,zbT,zd2 hu2,zd2 hu2,if_pos (by rw[hnames2];exact List.mem_append_left _ hm),if_pos (by rw[hn3];exact hm),a1,zcr (fun e=>hx (hnm.symm.trans e))]
theorem zmv{L:List KP}{out:List PT}{j:Nat}(h:KidsR L 0 [] [] out j):zb8 L=zj out:=by
  obtain⟨s',a1,_,_,a4,a5⟩:=zq0 h zaU rfl ⟨[],rfl,rfl,Or.inl rfl⟩
  have hj:L[j]?=none:=by
    rcases h.last with h0 | ⟨u,_,_,h2⟩
    . exact h0
    . rw[zob]at h2;exact absurd h2 (by decide)
  rw[zlw hj]at a5
  rw[a4.merge]
  show finB zaU L=_
  rw[List.drop_zero]at a5
  rw[a5]
  show zaQ s'.top s'.loose s'.anc=_
  rw[a1]
  rfl
def KP.bk(t:KP):Nat:=t.name.length+t.attrs.length+t.text.length+1
def kbL(l:List KP):Nat:=(l.map KP.bk).sum
theorem zlx{L:List KP}{i:Nat}{t:KP}(h:L[i]?=some t):kbL (L.drop i)=t.bk+kbL (L.drop (i+1)):=by
  unfold kbL
  rw[drop_one h,List.map_cons,List.sum_cons]
def zgL(o:Int):List (UInt8 × Int):=[(239,o),(191,o),(189,o)]
def nxC(l:List (UInt8 × Int)):Nat:=(nx (l.map (·.1))).1
def souC(l:List (UInt8 × Int)):Bool:=zac (l.map (·.1))
theorem zsA{l:List (UInt8 × Int)}(h:l≠[]):1<=nxC l/\nxC l<=l.length:=by
  have:=zfi (l:=l.map (·.1)) (by simpa using h)
  unfold nxC
  simpa using this
def rep(l:List (UInt8 × Int)):List (UInt8 × Int):=
  if _h:l=[] then [] else (if souC l then zgL (worC (l.take (nxC l))) else l.take (nxC l))++ rep (l.drop (nxC l))
termination_by l.length
decreasing_by (have:=zsA _h;have:0 < l.length:=List.length_pos_iff.2 _h;rw[List.length_drop];omega)
theorem zdE:rep []=[]:=by rw[rep];rfl
theorem zkj{l:List (UInt8 × Int)}(h:l≠[])(hs:zac (l.map (·.1))=true):rep l=zgL (zaH ((l.take (nx (l.map (·.1))).1).map (·.2)))++ rep (l.drop (nx (l.map (·.1))).1):=by
  conv=>lhs;rw[rep,dif_neg h,if_pos (show souC l=true from hs)]
  rfl
theorem zc4{l:List (UInt8 × Int)}(h:l≠[])(hs:zac (l.map (·.1))=false):rep l=l.take (nx (l.map (·.1))).1++ rep (l.drop (nx (l.map (·.1))).1):=by
  conv=>lhs;rw[rep,dif_neg h,if_neg (by rw[show souC l=false from hs];decide)]
  rfl
theorem zq1{p:List (UInt8 × Int)->Prop}(nil:p [])(next:∀ l,l≠[]->p (l.drop (nx (l.map (·.1))).1)->p l)(l:List (UInt8 × Int)):p l:=by
  have h:∀ n,∀ l:List (UInt8 × Int),l.length<=n->p l:=by
    intro n
    induction n with
    | zero=>intro l hl;have e:l=[]:=List.eq_nil_of_length_eq_zero (by omega);subst e;exact nil
    | succ n ih=>
      intro l hl
      by_cases e:l=[]
      . subst e;exact nil
      . exact next l e (ih _ (by have:=zfi (l:=l.map (·.1)) (by simpa using e);rw[List.length_drop];omega))
  exact h l.length l (Nat.le_refl _)
theorem zs1{l:List (UInt8 × Int)}(h:(fr (l.map (·.1))).2=0):rep l=l:=by
  induction l using zq1 with
  | nil=>exact zdE
  | next l hl ih=>
    have hl':l.map (·.1)≠[]:=by simpa using hl
    have hb:=zfi hl'
    cases hs:zac (l.map (·.1)) with
    | true=>rw[zfE hl' hs]at h;simp only at h;omega
    | false=>
      rw[zfF hl' hs]at h
      rw[zc4 hl hs,ih (by rw[List.map_drop];exact h),List.take_append_drop]
theorem zur{l:List (UInt8 × Int)}{a z:Nat}(h:fr (l.map (·.1))=(a,z))(hz:0 < z):rep l=l.take a++ (zgL (zaH (((l.drop a).take z).map (·.2)))++ rep (l.drop (a+z))):=by
  induction l using zq1 generalizing a with
  | nil=>rw[List.map_nil,zlc]at h;injection h with h1 h2;omega
  | next l hl ih=>
    have hl':l.map (·.1)≠[]:=by simpa using hl
    cases hs:zac (l.map (·.1)) with
    | true=>
      rw[zfE hl' hs]at h
      injection h with h1 h2
      subst h1
      subst h2
      rw[zkj hl hs]
      simp
    | false=>
      rw[zfF hl' hs]at h
      injection h with h1 h2
      rw[zc4 hl hs]
      generalize (nx (l.map (·.1))).1=n at *
      have h3:=ih (a:=(fr (((l.drop n).map (·.1)))).1) (by rw[<-List.map_drop]at h2;rw[<-h2])
      rw[h3,<-h1,<-List.map_drop]
      generalize (fr (((l.drop n).map (·.1)))).1=k
      rw[List.take_add,List.drop_drop,List.drop_drop,List.append_assoc,Nat.add_assoc]
theorem zdj(l:List (UInt8 × Int)):(rep l).length<=3 * l.length:=by
  induction l using zq1 with
  | nil=>rw[zdE];simp
  | next l hl ih=>
    have hb:=zsA hl
    unfold nxC at hb
    rw[List.length_drop]at ih
    cases hs:zac (l.map (·.1)) with
    | true=>rw[zkj hl hs,List.length_append];simp only[zgL,List.length_cons,List.length_nil];omega
    | false=>rw[zc4 hl hs,List.length_append,List.length_take];omega
theorem InR.bad{o:Int}(h:0<=o/\o<=65536):InR (zgL o):=by
  intro x hx
  simp only[zgL,List.map_cons,List.map_nil,List.mem_cons,List.not_mem_nil,or_false]at hx
  rcases hx with rfl | rfl | rfl<;>exact h
theorem InR.rep{l:List (UInt8 × Int)}(h:InR l):InR (mk.rep l):=by
  induction l using zq1 with
  | nil=>rw[zdE];exact h
  | next l hl ih=>
    cases hs:zac (l.map (·.1)) with
    | true=>rw[zkj hl hs];exact(InR.bad (zfQ (h.take _))).append (ih (h.drop _))
    | false=>rw[zc4 hl hs];exact(h.take _).append (ih (h.drop _))
theorem zoc(o:Int):(zgL o).map (·.1)=badB:=rfl
theorem zmw{n:Nat}{rs:List (Int × Int)}(hg:Good rs)(h:(ze rs).length<=n):pre n rs=ze rs:=by
  induction rs using za1 with
  | nil=>rfl
  | append_singleton rs r ih=>
    have hr:=hg r (by simp)
    rw[zl,List.length_append]at h
    have h1:(ze [r]).length=r.1.toNat:=by simp [ze]
    rw[zcD,ih (fun x hx=>hg x (by simp [hx])) (by omega),zl,show min r.1.toNat (n - (ze rs).length)=r.1.toNat by omega,zhK hr.2.1 hr.2.2]
    simp [ze]
theorem zdw{n:Nat}{rs:List (Int × Int)}(hg:Good rs)(h:(ze rs).length=n):zN n rs=ze rs:=by
  unfold zN
  rw[zmw hg (by omega),h]
  simp
theorem zhZ{T B b bv g:Nat}{bs:List Value}{w w':World}{x y:Array Value}(h:Lib.IsBuilderF T 5 B b bs w)(hm:Moved (Two bv g) w w')(hv:Whole w bv 22 x)(hg:Whole w g 53 y)(hT:T≠53)(hT2:T≠22):Lib.IsBuilderF T 5 B b bs w':=by
  have hk:∀ (k:Nat) (c:Array Value) (t:TypeId) (fz:Nat × Nat),w.heap[k]?=some (.cells c t fz)->t≠53->t≠22->w'.heap[k]?=some (.cells c t fz):=by
    intro k c t fz hc h1 h2
    rw[hm.block k (Array.getElem?_eq_some_iff.1 hc).1 ?_]
    . exact hc
    . rintro(rfl | rfl)
      . unfold Whole at hv;rw[hc]at hv;injection hv with hv;injection hv with _ hv;exact h2 hv
      . unfold Whole at hg;rw[hc]at hg;injection hg with hg;injection hg with _ hg;exact h1 hg
  have key:∀ p,Lib.BuilderAtF T 5 B b p bs w->Lib.BuilderAtF T 5 B b p bs w':=by
    rintro p ⟨hB,v,hbk,hown,hne⟩
    refine⟨hB,v,hk _ _ _ _ hbk hT hT2,⟨hown.1,?_⟩,hne⟩
    rcases hown.2 with h0 | ⟨g,cap,cur,fz,hv,hg,hgg,r⟩
    . exact .inl h0
    . exact .inr ⟨g,cap,cur,fz,hv,hg,hk _ _ _ _ hgg (by decide) (by decide),r⟩
  rcases h with h | h
  . exact .inl (key _ h)
  . exact .inr (key _ h)
theorem RunsAt.keep{w w':World}{bv g:Nat}{qs:List (Int × Int)}(h:RunsAt w bv g qs)(hk:∀ k,k=bv\/k=g->∀ c t,(t=22\/t=53)->Whole w k t c->Whole w' k t c):RunsAt w' bv g qs:=by
  obtain⟨A,n,c,hV,hn,hc,hx⟩:=h
  refine⟨A,n,c,hk bv (.inl rfl) _ _ (.inl rfl) hV,hn,hc,fun hp=>?_⟩
  obtain⟨off,cs,hA,hW,hcs⟩:=hx hp
  exact⟨off,cs,hA,hk g (.inr rfl) _ _ (.inr rfl) hW,hcs⟩
def RepSt(N bv g:Nat)(w0:World)(bs:List UInt8)(os1 os2:List Int)(v:Value)(wr:World):Prop:=
  ∃ rs qs,wr.ownsRow (bv+1) 53 2 v rs.length (zd rs)/\Good rs/\ze rs=os1/\RunsAt wr bv g qs/\Good qs/\ze qs=os2/\
    Lib.IsBuilderF 68 5 (N+2) (N+2) (Lib.byteCells bs) wr/\Below (N+2) w0 wr/\(g≠N+2/\N+2 < bv/\(os2≠[]->N+2 < g))/\g < bv/\bv < wr.heap.size
theorem RepSt.below{N bv g:Nat}{w0:World}{bs:List UInt8}{os1 os2:List Int}{v:Value}{w w':World}(h:RepSt N bv g w0 bs os1 os2 v w)(hb:Below w.heap.size w w'):RepSt N bv g w0 bs os1 os2 v w':=by
  obtain⟨rs,qs,h1,h2,h3,h4,h5,h6,h7,h8,h9,h10,h11⟩:=h
  have:=hb.size
  exact⟨rs,qs,zO h1 hb,h2,h3,h4.keep (fun k _ c t _ hw=>hw.below hb hw.lt),h5,h6,zaO h7 hb (by decide),h8.trans (hb.mono (by omega)),h9,h10,by omega⟩
theorem RepSt.alloc{N bv g:Nat}{w0:World}{bs:List UInt8}{os1 os2:List Int}{v:Value}{w:World}(h:RepSt N bv g w0 bs os1 os2 v w)(o:Obj):RepSt N bv g w0 bs os1 os2 v (w.alloc o):=h.below ((Below.refl _ _).alloc (Nat.le_refl _) _)
theorem RepSt.write{N bv g:Nat}{w0:World}{bs:List UInt8}{os1 os2:List Int}{v:Value}{w w':World}{s:ByteArray}(h:RepSt N bv g w0 bs os1 os2 v w)
    (hbu:Lib.BuilderAtF 68 5 (N+2) (N+2) (.pointer (some ⟨N+2,0,none⟩)) (Lib.byteCells bs++ Lib.strCells s) w') (hb:Below (N+2) w w') (ho:Lib.OthersKept 5 (some (N+2)) w w'):RepSt N bv g w0 (bs++ s.data.toList) os1 os2 v w':=by
  obtain⟨rs,qs,h1,h2,h3,h4,h5,h6,h7,h8,h9,h10,h11⟩:=h
  have:=hb.size
  refine⟨rs,qs,zaP h1 ho (by omega),h2,h3,h4.keep (fun k hk c t ht hw=>?_),h5,h6,?_,h8.trans hb,h9,h10,by omega⟩
  . refine ho _ _ hw ?_ ?_
    . rcases hk with rfl | rfl<;>(intro e;injection e with e;omega)
    . intro c fz e;injection e with _ e _;rcases ht with rfl | rfl<;>exact absurd e (by decide)
  . rw[zbI];exact .inr hbu
theorem RepSt.take{N bv g:Nat}{w0:World}{bs:List UInt8}{os1 os2:List Int}{v:Value}{w w':World}{qs0:List (Int × Int)}{m:Nat}{rs:List (Int × Int)}{u:Value}
    (h1:w.ownsRow (bv+1) 53 2 v rs.length (zd rs)) (h2:Good rs) (h3:ze rs=os1) (h4:RunsAt w bv g qs0) (h6:ze qs0=os2) (h7:Lib.IsBuilderF 68 5 (N+2) (N+2) (Lib.byteCells bs) w) (h8:Below (N+2) w0 w) (h9:g≠N+2/\N+2 < bv/\(os2≠[]->N+2 < g)) (h10:g < bv) (h11:bv < w.heap.size)
    (hos:os2≠[]) (ht:zll qs0 m bv g w (.returned u) w'):RepSt N bv g w0 bs os1 (os2.drop m) v w'/\∃ ts,w'.ownsRow w.heap.size 53 2 u ts.length (zd ts)/\Good ts/\ze ts=os2.take m/\(ze ts).length=m:=by
  obtain⟨u',ts,qs,e,t1,t2,t3,t4,t5,t6,t7⟩:=ht
  injection e with e
  subst e
  have hz:=t7.size
  have e1:ze ts=os2.take m:=by rw[<-h6,<-t5,<-t6];simp
  have e2:ze qs=os2.drop m:=by rw[<-h6,<-t5,<-t6];simp
  refine⟨⟨rs,qs,t7.own h1 ?_,h2,h3,t2,t4,e2,?_,h8.trans (t7.below (by omega) ?_),⟨h9.1,h9.2.1,fun _=>h9.2.2 hos⟩,h10,by omega⟩,ts,t1,t3,e1,t6⟩
  . intro k hk
    have:=(h1.lt k hk).1
    rintro(rfl | rfl)<;>omega
  . obtain⟨A,n,c,hV,hn,hc,hx⟩:=h4
    obtain⟨off,cs,hA,hW,hcs⟩:=hx (by
      rcases Nat.eq_zero_or_pos n with h0 | h0
      . exfalso
        have:qs0=[]:=List.eq_nil_of_length_eq_zero (by omega)
        subst this
        exact hos h6.symm
      . exact h0)
    exact zhZ h7 t7 hV hW (by decide) (by decide)
  . have:=h9.2.2 hos
    rintro k hk (rfl | rfl)<;>omega
theorem RepSt.grow{N bv g:Nat}{w0:World}{bs:List UInt8}{os2:List Int}{v v':Value}{w w':World}{rs ts qs:List (Int × Int)}
    (h1:w.ownsRow (bv+1) 53 2 v rs.length (zd rs)) (h2:Good rs) (h4:RunsAt w bv g qs) (h5:Good qs) (h6:ze qs=os2) (h7:Lib.IsBuilderF 68 5 (N+2) (N+2) (Lib.byteCells bs) w) (h8:Below (N+2) w0 w) (h9:g≠N+2/\N+2 < bv/\(os2≠[]->N+2 < g)) (h10:g < bv) (h11:bv < w.heap.size)
    (hts:Good ts) (hown:w'.ownsRow (bv+1) 53 2 v' (rs.length+ts.length) (zd rs++ zd ts)) (hg:w.grownBy w' v.ownBlock):RepSt N bv g w0 bs (ze rs++ ze ts) os2 v' w':=by
  have hz:=hg.size
  refine⟨rs++ ts,qs,by rw[List.length_append,zaf];exact hown,h2.append hts,zl _ _,h4.keep (fun k hk c t _ hw=>hw.grown hg ?_),h5,h6,zcG h7 h1 hg (by decide),h8.grown hg (by omega) (fun x hx=>by have:=(h1.lt x hx).1;omega),h9,h10,by omega⟩
  intro e
  have:=(h1.lt k e.symm).1
  rcases hk with rfl | rfl<;>omega
theorem zh0{T B b:Nat}{bs:List Value}{w w':World}(h:Lib.IsBuilderF T 5 B b bs w)(hk:∀ (k:Nat) (c:Array Value) (t:TypeId) (fz:Nat × Nat),w.heap[k]?=some (.cells c t fz)->t=T\/t=5->w'.heap[k]?=some (.cells c t fz)):Lib.IsBuilderF T 5 B b bs w':=by
  have key:∀ p,Lib.BuilderAtF T 5 B b p bs w->Lib.BuilderAtF T 5 B b p bs w':=by
    rintro p ⟨hB,v,hbk,hown,hne⟩
    refine⟨hB,v,hk _ _ _ _ hbk (.inl rfl),⟨hown.1,?_⟩,hne⟩
    rcases hown.2 with h0 | ⟨g,cap,cur,fz,hv,hg,hgg,r⟩
    . exact .inl h0
    . exact .inr ⟨g,cap,cur,fz,hv,hg,hk _ _ _ _ hgg (.inr rfl),r⟩
  rcases h with h | h
  . exact .inl (key _ h)
  . exact .inr (key _ h)
theorem zh1{w:World}{a b:Nat}{t u:TypeId}{c:Array Value}{fz:Nat × Nat}{d:Array Value}(ha:w.heap[a]?=some (.cells c t fz))(hb:Whole w b u d)(h:t≠u):a≠b:=by
  rintro rfl
  unfold Whole at hb
  rw[ha]at hb
  injection hb with hb
  injection hb with _ hb
  exact h hb
theorem RepSt.put{N bv g q:Nat}{w0:World}{bs:List UInt8}{os1 os2:List Int}{v:Value}{w:World}{cs:Array Value}(h:RepSt N bv g w0 bs os1 os2 v w)(hq:Whole w q 24 cs)(hN:N+2<=q)(i:Nat)(u:Value):RepSt N bv g w0 bs os1 os2 v (w.setCell ⟨q,i,none⟩ u):=by
  obtain⟨rs,qs,h1,h2,h3,h4,h5,h6,h7,h8,h9,h10,h11⟩:=h
  refine⟨rs,qs,zQ h1 _ (fun e=>?_) _,h2,h3,h4.keep (fun k _ c t ht hw=>hw.far _ ?_ _),h5,h6,zh0 h7 (fun k c t fz hc ht=>?_),h8.setCell hN _,h9,h10,by rw[show(w.setCell ⟨q,i,none⟩ u).heap.size=w.heap.size by simp [World.setCell]];exact h11⟩
  . obtain⟨cur,hc⟩:=zaA h1 e
    exact zh1 hc hq (by decide) rfl
  . exact zh1 hw hq (by rcases ht with rfl | rfl<;>decide)
  . rw[Below.heap_setCell _ _ _ _ (zh1 hc hq (by rcases ht with rfl | rfl<;>decide))];exact hc
def RwK(N:Nat)(S:Nat->Prop)(Inv:Nat->World->Prop)(out:Nat->List (UInt8 × Int))(sz:Nat)(qs:List (Int × Int))(ta:Value)(w0:World)(k:Nat)(v at_:Value)(wr:World):Prop:=
  at_=.int .i64 (k:Int)/\k<=sz/\(comp ((out k).map (·.2))).length<=k/\RwSt N S qs ta w0 ((out k).map (·.1)) ((out k).map (·.2)) v wr/\Inv k wr
def zus(N:Nat)(S:Nat->Prop)(Inv:Nat->World->Prop)(out:Nat->List (UInt8 × Int))(sz:Nat)(qs:List (Int × Int))(ta:Value)(w0:World)(v at_ i:Value)(wr:World):Prop:=
  ∃ j:Nat,j<=qs.length/\i=.int .i64 (j:Int)/\RwK N S Inv out sz qs ta w0 (ze (qs.take j)).length v at_ wr
def RwIn(N:Nat)(S:Nat->Prop)(Inv:Nat->World->Prop)(out:Nat->List (UInt8 × Int))(sz:Nat)(qs:List (Int × Int))(ta:Value)(w0:World)(r k:Nat)(l o:Int)(v at_ i:Value)(wr:World):Prop:=
  ∃ m:Nat,(m:Int)<=l/\i=.int .i64 (m:Int)/\RwK N S Inv out sz qs ta w0 (k+m) v at_ wr/\Whole wr r 53 #[.int .i64 l,.int .i64 o]/\v.ownBlock≠some r
def zut(S:Nat->Prop)(I:World->Prop)(q:List (UInt8 × Int))(w:World)(e:Ending)(w':World):Prop:=
  ∃ v,e=.returned (.agg #[.string ⟨(q.map (·.1)).toArray⟩,v])/\w'.ownsRow w.heap.size 53 2 v (comp (q.map (·.2))).length (zd (comp (q.map (·.2))))/\Moved S w w'/\I w'
def Puts(F:Nat)(caps:Array Value)(S:Nat->Prop)(Inv:Nat->World->Prop)(out:Nat->List (UInt8 × Int))(L:List (UInt8 × Int))(N:Nat):Prop:=
  ∀ k b o w',L[k]?=some (b,o)->Inv k w'->N<=w'.heap.size->Calls Tryz.prog F (#[.int .i64 (k:Int),.int .i64 o]++ caps) w' fun e w''=>
    ∃ (part:ByteArray) (o':Int),e=.returned (.tuple #[.string part,.int .i64 o'])/\out (k+1)=out k++ part.data.toList.map (fun x=>(x,o'))/\Inv (k+1) w''/\Moved S w' w''
theorem zfZ(F:Nat)(caps:Array Value)(S:Nat->Prop)(Inv:Nat->World->Prop)(out:Nat->List (UInt8 × Int))(s:ByteArray)(A:Option Addr)(n c:Nat)(rs:List (Int × Int))(w:World)(hl:Lies w w.heap.size A (zd rs))(hn:rs.length=n)(hs:s.size<=4294967296)(hn2:n<=4294967296)
    (hE:∀ args w',Sem.run Tryz.prog (callFunc F args) w'=.ok (.enter F args) w') (hS:∀ g,S g->g < w.heap.size) (hI:∀ k w' w'',Inv k w'->Below w.heap.size w' w''->Inv k w'')
    (hP:Puts F caps S Inv out (chars s.data.toList rs) w.heap.size) (h0:out 0=[]) (hI0:Inv 0 w) (hout:∀ k,k<=s.size->(out k).length<=70368744177664) :
    Calls Tryz.prog 43 #[.agg #[.string s,.slice A n c],.func (.func F) #[] caps] w (zut S (Inv s.size) (out s.size) w):=by
  have HN:=Lib.hid hn
  have HE:=Lib.hid hE
  have HS:=Lib.hid hS
  have HI:=Lib.hid hI
  have HP:=Lib.hid hP
  have HB:=Lib.hid hout
  have H0:=Lib.hid h0
  have HI0:=Lib.hid hI0
  clear hn hE hS hI hP hout h0 hI0
  go_enter Tryz.func43,Tryz.ntmps43
  go_wp2_with fail
  refine(zcF s A n c rs _ ?_ HN.out (by omega) hn2).mono ?_
  . exact(((hl.alloc (Nat.le_refl _) _).alloc (by simp) _).alloc (by simp;omega) _).mono (by simp;omega)
  rintro e w3 ⟨v,rfl,hown,hb3⟩
  obtain⟨A3,c3,rfl,_,_,_⟩:=zg hown
  have fr1:=fun w'=>zeo s A3 (zal s.size rs).length c3 w'
  go_wp2_with fail
  clear fr1
  simp only[World.size_alloc]at hown hb3
  have hz3:=hb3.size
  simp only[World.size_alloc]at hz3
  have hex:ze (zal s.size rs)=zN s.size rs:=zU _
  have hpos:∀ r∈zal s.size rs,1<=r.1:=zbc _
  have hql:(zal s.size rs).length<=s.size:=by have:=zE (zN s.size rs);rw[zF]at this;exact this
  generalize hqs:zal s.size rs=qs at *
  have hexl:(ze qs).length=s.size:=by rw[hex,zF]
  have y1:Whole w3 (w.heap.size+1) 24 #[.string ⟨#[]⟩,.slice none 0 0]:=by
    have h:=(Whole.made (w.alloc (.cells #[.string s,.slice A n c] 24)) 24 #[.string ⟨#[]⟩,.slice none 0 0]).alloc (.cells #[.pointer none,.slice none 0 0] 68)
    simp only[World.size_alloc]at h
    exact h.below hb3 (by omega)
  have hi0:Lib.IsBuilderF 68 5 (w.heap.size+2) (w.heap.size+2) (Lib.byteCells []) w3:=by
    have h:=Lib.IsBuilderF.of (Lib.fresh_isBuilder 68 5 ((w.alloc (.cells #[.string s,.slice A n c] 24)).alloc (.cells #[.string ⟨#[]⟩,.slice none 0 0] 24)))
    simp only[World.size_alloc]at h
    exact zaO h (hb3.mono (by simp)) (by decide)
  have hbw:Below w.heap.size w w3:=((((Below.refl _ _).alloc (Nat.le_refl _) _).alloc (by simp) _).alloc (by simp;omega) _).trans (hb3.mono (by omega))
  have hst0:RwSt w.heap.size S qs (.slice A3 qs.length c3) w3 [] [] (.slice none 0 0) w3:=
    ⟨World.ownsRow_nil _ _ _ _,hown,by intro g hg;simp [Value.ownBlock]at hg,hi0,Kept.refl _ _ _,by omega⟩
  have HST:=Lib.hid hst0
  have HEX:=Lib.hid hex
  have HEL:=Lib.hid hexl
  have HPOS:=Lib.hid hpos
  clear hst0 hown hi0 hb3 hqs hex hexl hpos
  generalize hqn:qs.length=z at *
  have HZ:=Lib.hid hqn
  clear hqn
  go_loopw [6,7,16] (zus w.heap.size S Inv out s.size qs (.slice A3 z c3) w3) (fun _ _ i _=>z - (intOf i).toNat)
  case atStart=>exact⟨0,Nat.zero_le _,rfl,by simp [ze],Nat.zero_le _,by simp [ze,H0.out,comp],by simpa [ze,H0.out]using HST.out,HI.out _ _ _ HI0.out hbw⟩
  case round=>
    obtain⟨j,hj,rfl,rfl,hks,hcl,hst,hinv⟩:=hrel
    rw[HZ.out]at hj
    have HK1:=Lib.hid hcl
    have HK2:=Lib.hid hst
    have HK3:=Lib.hid hinv
    clear hcl hst hinv
    have hwz:w.heap.size+3<=wr.heap.size:=HK2.out.2.2.2.2.2
    by_cases hjl:j < z
    . have hta2:=HK2.out.2.1
      rw[HZ.out]at hta2
      obtain⟨ad',l,o,rfl,hbA,hd1,hd2,HR⟩:=(Lies.own hta2).run (k:=j) (by rw[HZ.out];exact hjl)
      have hl1:1<=l:=HPOS.out (l,o) (List.mem_of_getElem? HR.out)
      have HNX:=Lib.hid (zcR HR.out)
      have hx2:=zcZ qs (j+1)
      rw[HNX.out,HEL.out]at hx2
      have HAT:Hid (∀ m:Nat,(m:Int) < l->(zN s.size rs)[(ze (qs.take j)).length+m]?=some o):=fun m hm=>by rw[<-HEX.out];exact ziU HR.out (by omega)
      clear hta2
      generalize hd:(ze (qs.take j)).length=d at *
      have HD:=Lib.hid hd
      clear hd
      have hj0:(0:Int)<=(j:Int):=Int.natCast_nonneg _
      have hj1:(j:Int) < (z:Int):=by omega
      go_wp2_with fail
      have hrb:Whole (wr.alloc (.cells #[.int .i64 l,.int .i64 o] 53)) wr.heap.size 53 #[.int .i64 l,.int .i64 o]:=Whole.made _ _ _
      generalize hw4:wr.alloc (.cells #[.int .i64 l,.int .i64 o] 53)=w4 at *
      have hb4:Below wr.heap.size wr w4:=by rw[<-hw4];exact(Below.refl _ _).alloc (Nat.le_refl _) _
      have hst4:=HK2.out.below hb4
      have hinv4:=HI.out _ _ _ HK3.out (hb4.mono (by omega))
      have hv4:u6.ownBlock≠some wr.heap.size:=fun e=>by have:=(HK2.out.1.lt _ e).2;omega
      have HSI:Hid (RwIn w.heap.size S Inv out s.size qs (.slice (some ad') z c3) w3 wr.heap.size d l o u6 (.int .i64 (d:Int)) (.int .i64 0) w4):=
        ⟨0,by omega,rfl,⟨rfl,hks,HK1.out,hst4,hinv4⟩,hrb,hv4⟩
      obtain⟨g,hg⟩:∃ g,g=wr.heap.size:=⟨_,rfl⟩
      have hgz:w.heap.size+3<=g:=by omega
      have HSI2:Hid (RwIn w.heap.size S Inv out s.size qs (.slice (some ad') z c3) w3 g d l o u6 (.int .i64 (d:Int)) (.int .i64 0) w4):=by rw[hg];exact HSI
      rw[<-hg]
      clear HSI hg hw4 hrb hb4 hst4 hinv4 hv4 hd1 hd2 HK1 HK2 HK3
      go_loopw [6,7,22] (RwIn w.heap.size S Inv out s.size qs (.slice (some ad') z c3) w3 g d l o) (fun _ _ i _=>l.toNat - (intOf i).toNat)
      case atStart=>exact HSI2.out
      case round=>
        obtain⟨m,hml,rfl,⟨rfl,hks2,hcl,hst,hinv⟩,hrb,hvg⟩:=hrel
        have HK1:=Lib.hid hcl
        have HK2:=Lib.hid hst
        have HK3:=Lib.hid hinv
        have HRB:=Lib.hid hrb
        have HVG:=Lib.hid hvg
        clear hcl hst hinv hvg HSI2
        have hbz:w.heap.size+3<=wr.heap.size:=HK2.out.2.2.2.2.2
        have hc1:wr.cell? ⟨g,1,none⟩=some (.int .i64 o):=hrb.at_ 1
        clear hrb
        by_cases hm:(m:Int) < l
        . have hk:d+m < s.size:=by omega
          have HLK:Hid ((chars s.data.toList rs)[d+m]?=some (s[d+m]'hk,o)):=zln hk (HAT.out m hm)
          have hB0:=HB.out (d+m) (by omega)
          have hB1:=HB.out (d+m+1) (by omega)
          have HM:=Lib.hid hm
          go_wp2_with fail
          rw[HE.out]
          refine(HP.out (d+m) _ o _ HLK.out HK3.out (by omega)).mono ?_
          rintro e w5 ⟨part,o',rfl,hout1,hinv5,hmv⟩
          have hps:(out (d+m+1)).length=(out (d+m)).length+part.size:=by
            rw[hout1,List.length_append,List.length_map,Array.length_toList];rfl
          have hst5:=HK2.out.moved hmv HS.out
          have hrb5:=hmv.whole HRB.out (fun hs=>by have:=HS.out _ hs;omega)
          have hz5:=hmv.size
          have H5:=Lib.hid hst5
          have R5:=Lib.hid hrb5
          have I5:=Lib.hid hinv5
          have O5:=Lib.hid hout1
          have P5:=Lib.hid hps
          have hpb:(out (d+m)).length+part.size<=70368744177664:=by omega
          clear hst5 hrb5 hinv5 hout1 hmv hps hc1
          go_wp2_with fail
          refine(zaG (w.heap.size+2) (w.heap.size+2) (Lib.byteCells ((out (d+m)).map (·.1))) part _ H5.out.2.2.2.1 (by rw[Lib.byteCells_length,List.length_map];omega) (by omega)).mono ?_
          rintro e w6 ⟨rfl,hbu,hbl,hoth⟩
          have hst6:=H5.out.write hbu hbl hoth
          have hrb6:Whole w6 g 53 #[.int .i64 l,.int .i64 o]:=hoth _ _ R5.out (by intro e;injection e with e;omega) (by intro c fz e;injection e with _ e _;exact absurd e (by decide))
          have hinv6:=HI.out _ _ _ I5.out (hbl.mono (by omega))
          have hz6:=hbl.size
          have H6:=Lib.hid hst6
          have R6:=Lib.hid hrb6
          have I6:=Lib.hid hinv6
          have hc6:=HK1.out
          clear hst6 hrb6 hinv6 hbu hbl hoth
          go_wp2_with fail
          refine(zkb (w.heap.size+3) u6 ((out (d+m)).map (·.2)) (part.size:Int) o' _ H6.out.1 (by omega) (by omega) (by rw[List.length_map];omega) (by omega) (by omega)).mono ?_
          rintro e w7 ⟨v7,rfl,hown7,hg7,hat7⟩
          have hz7:=hg7.size
          rw[Int.toNat_natCast]at hown7
          have hst7:=H6.out.join hown7 hg7 hat7
          have hjl:(comp ((out (d+m)).map (·.2)++ List.replicate part.size o')).length<=(comp ((out (d+m)).map (·.2))).length+1:=by rw[zcd];exact znY _ _ _
          have e1:(out (d+m+1)).map (·.1)=(out (d+m)).map (·.1)++ part.data.toList:=by rw[O5.out,List.map_append,List.map_map];congr 1;exact List.map_id' _
          have e2:(out (d+m+1)).map (·.2)=(out (d+m)).map (·.2)++ List.replicate part.size o':=by
            rw[O5.out,List.map_append,List.map_map]
            congr 1
            have:part.data.toList.length=part.size:=by rw[Array.length_toList];rfl
            rw[<-this]
            exact List.map_const'
          rw[<-e1,<-e2]at hst7
          rw[<-e2]at hjl
          have hrb7:Whole w7 g 53 #[.int .i64 l,.int .i64 o]:=R6.out.grown hg7 (fun e=>HVG.out e.symm)
          have hinv7:=HI.out _ _ _ I6.out ((Below.refl _ _).grown hg7 (by omega) (fun k hk=>by have:=(H6.out.1.lt k hk).1;omega))
          have hvg7:v7.ownBlock≠some g:=by
            rcases hat7 with e | ⟨k,hk,e⟩
            . rw[e];exact HVG.out
            . rw[e];intro e2;injection e2 with e2;have:=R6.out.lt;omega
          have HREL:Hid (RwIn w.heap.size S Inv out s.size qs (.slice (some ad') z c3) w3 g d l o v7 (.int .i64 ((d+m+1:Nat):Int)) (.int .i64 ((m+1:Nat):Int)) w7):=
            ⟨m+1,by have:=HM.out;omega,rfl,⟨rfl,by omega,by have:d+(m+1)=d+m+1:=rfl;rw[this];omega,hst7,hinv7⟩,hrb7,hvg7⟩
          clear hst7 hrb7 hinv7 hvg7 hown7 hg7 hat7 hjl e1 e2
          go_wp2_with fail
          go_roundw
          case rel=>
            have h:=HREL.out
            first | exact h | (simpa using h)
          case measure=>simp [intOf];omega
        . obtain rfl:l=(m:Int):=by omega
          have HREL:Hid (zus w.heap.size S Inv out s.size qs (.slice (some ad') z c3) w3 u6 (.int .i64 ((d+m:Nat):Int)) (.int .i64 ((j+1:Nat):Int)) wr):=by
            refine⟨j+1,by rw[HZ.out];omega,rfl,?_⟩
            rw[HNX.out,Int.toNat_natCast]
            exact⟨rfl,hks2,HK1.out,HK2.out,HK3.out⟩
          go_wp2_with fail
          go_roundw
          case rel=>exact HREL.out
          case measure=>simp [intOf];omega
    . obtain rfl:j=z:=by omega
      have hfull:(ze (qs.take j)).length=s.size:=by rw[List.take_of_length_le (by rw[HZ.out];exact Nat.le_refl _),HEL.out]
      rw[hfull]at HK1 HK2 HK3
      have HFULL:=Lib.hid hfull
      have hB0:=HB.out s.size (Nat.le_refl _)
      clear hfull
      go_wp2_with fail
      refine(Tryz.Builder_String_any_k (w.heap.size+2) (w.heap.size+2) ((out s.size).map (·.1)) wr HK2.out.2.2.2.1 (by omega)).mono ?_
      rintro e w5 ⟨rfl,_,hbl5,hoth5⟩
      have ho5:=zaP HK2.out.1 hoth5 (by omega)
      have hinv5:=HI.out _ _ _ HK3.out (hbl5.mono (by omega))
      have hkp:=HK2.out.2.2.2.2.1.below hbl5
      have hW:=(y1.same (hkp.block _ (by omega) (fun hs=>by have:=HS.out _ hs;omega)))
      have f0:=hW.free 0
      have f1:=hW.free 1
      have d0:w5.cell? ⟨w.heap.size+1,0,none⟩=some (.string ⟨#[]⟩):=hW.at_ 0
      have d1:w5.cell? ⟨w.heap.size+1,1,none⟩=some (.slice none 0 0):=hW.at_ 1
      obtain⟨A5,c5,rfl,_,_,_⟩:=zg ho5
      have HO5:=Lib.hid ho5
      have HI5:=Lib.hid hinv5
      have HKP:=Lib.hid hkp
      clear ho5 hinv5 hkp
      generalize hq1:(out s.size).map (·.1)=st at *
      generalize hq2:comp ((out s.size).map (·.2))=q at *
      have HQ1:=Lib.hid hq1
      have HQ2:=Lib.hid hq2
      clear hq1 hq2
      go_wp2
      refine bodyPost_ret (v:=.agg #[.string ⟨st.toArray⟩,.slice A5 q.length c5]) ?_ rfl ?_
      . simp [results,Tryz.results43,go_sem,d0,d1]
      . refine⟨.slice A5 q.length c5,by rw[HQ1.out],?_,?_,?_⟩
        . rw[HQ2.out]
          refine zD (base:=w.heap.size+3) (zQ (zQ HO5.out _ (fun h=>?_) _) _ (fun h=>?_) _) (by omega)
          . exact absurd (HO5.out.lt _ h).1 (by simp)
          . exact absurd (HO5.out.lt _ h).1 (by simp)
        . have hk:=HKP.out
          have hkb:Below (w.heap.size+1) w5 ((w5.setCell ⟨w.heap.size+1,0,none⟩ (.string ⟨st.toArray⟩)).setCell ⟨w.heap.size+1,1,none⟩ (.slice A5 q.length c5)):=((Below.refl _ _).setCell (p:=⟨w.heap.size+1,0,none⟩) (Nat.le_refl _) _).setCell (p:=⟨w.heap.size+1,1,none⟩) (Nat.le_refl _) _
          exact⟨hkb.os.trans (hk.os.trans hbw.os),hkb.tape.trans (hk.tape.trans hbw.tape),hkb.output.trans (hk.output.trans hbw.output),Nat.le_trans (Nat.le_trans hbw.size hk.size) hkb.size,fun g hg hs=>(hkb.block g (by omega)).trans ((hk.block g (by omega) hs).trans (hbw.block g hg))⟩
        . exact HI.out _ _ _ HI5.out (((Below.refl _ _).setCell (p:=⟨w.heap.size+1,0,none⟩) (Nat.le_succ _) _).setCell (p:=⟨w.heap.size+1,1,none⟩) (Nat.le_succ _) _)
def za8(f:UInt8->Bool)(by_:List UInt8)(l:List (UInt8 × Int)):List (UInt8 × Int):=l.flatMap fun x=>if f x.1 then by_.map (fun y=>(y,x.2)) else [x]
theorem zmx{f:UInt8->Bool}{by_:List UInt8}{l:List (UInt8 × Int)}{k:Nat}{b:UInt8}{o:Int}(h:l[k]?=some (b,o)):za8 f by_ (l.take (k+1))=za8 f by_ (l.take k)++ (if f b then by_ else [b]).map (fun y=>(y,o)):=by
  rw[zC h]
  unfold za8
  rw[List.flatMap_append]
  congr 1
  rw[List.flatMap_singleton]
  split<;>rfl
theorem ze6(f:UInt8->Bool)(by_:List UInt8)(l:List (UInt8 × Int)):(za8 f by_ l).length<=l.length * (by_.length+1):=by
  induction l with
  | nil=>simp [za8]
  | cons x l ih=>
    have e:za8 f by_ (x::l)=(if f x.1 then by_.map (fun y=>(y,x.2)) else [x])++ za8 f by_ l:=by simp [za8]
    rw[e,List.length_append,List.length_cons,Nat.add_mul]
    have:(if f x.1 then by_.map (fun y=>(y,x.2)) else [x]).length<=by_.length+1:=by split<;>simp
    omega
theorem zly(s:ByteArray)(k:Nat)(hk:k < s.size):(s.extract k (k+1)).data.toList=[s[k]'hk]:=by
  have hsl:s.data.toList.length=s.size:=by rw[Array.length_toList];rfl
  rw[ByteArray.data_extract,Array.toList_extract]
  have hk':k < s.data.toList.length:=by rw[hsl];exact hk
  rw[List.extract_eq_take_drop,List.drop_eq_getElem_cons hk',show k+1 - k=1 by omega]
  rfl
theorem zod(F:Nat)(caps:Array Value)(f:UInt8->Bool)(bS bQ bB:Nat)(s y:ByteArray)(v:Value)(k:Nat)(o:Int)(hk:k < s.size)(hs:s.size<=4294967296)(w:World)
    (hE:∀ args w',Sem.run Tryz.prog (callFunc F args) w'=.ok (.enter F args) w')
    (hF:∀ (b:UInt8) w',Below w.heap.size w w'->Calls Tryz.prog F (#[.int .u8 b.toNat]++ caps) w' fun e w''=>e=.returned (.bool (f b))/\w'=w'')
    (b0:bS < w.heap.size) (b1:bQ < w.heap.size) (b2:bB < w.heap.size)
    (c0:w.cell? ⟨bS,0,none⟩=some (.string s)) (c1:w.cell? ⟨bS,1,none⟩=some v) (c2:w.cell? ⟨bQ,0,none⟩=some (.func (.func F) #[] caps)) (c3:w.cell? ⟨bB,0,none⟩=some (.string y)) :
    Calls Tryz.prog 180 #[.int .i64 (k:Int),.int .i64 o,.pointer (some ⟨bQ,0,none⟩),.pointer (some ⟨bS,0,none⟩),.pointer (some ⟨bB,0,none⟩)] w fun e w'=>(∃ part:ByteArray,e=.returned (.tuple #[.string part,.int .i64 o])/\part.data.toList=(if f (s[k]'hk) then y.data.toList else [s[k]'hk]))/\Below w.heap.size w w':=by
  have HE:=Lib.hid hE
  have HF:=Lib.hid hF
  clear hE hF
  have hk0:(0:Int)<=(k:Int):=Int.natCast_nonneg _
  have hk1:(k:Int) < (s.size:Int):=by omega
  have hk2:(k:Int)+1<=(s.size:Int):=by omega
  go_enter Tryz.func180,Tryz.ntmps180
  go_wp2_with fail
  have KS:∀ w',Below w.heap.size w w'->w'.cell? ⟨bS,0,none⟩=some (.string s)/\w'.cell? ⟨bS,1,none⟩=some v/\w'.cell? ⟨bQ,0,none⟩=some (.func (.func F) #[] caps)/\w'.cell? ⟨bB,0,none⟩=some (.string y)/\Below w.heap.size w w':=fun w' h=>
    ⟨(h.cell b0).trans c0,(h.cell b0).trans c1,(h.cell b1).trans c2,(h.cell b2).trans c3,h⟩
  have HKS:=Lib.hid KS
  clear KS
  go_region_held3 (fun w'=>w'.cell? ⟨bS,0,none⟩=some (.string s)/\w'.cell? ⟨bS,1,none⟩=some v/\w'.cell? ⟨bQ,0,none⟩=some (.func (.func F) #[] caps)/\w'.cell? ⟨bB,0,none⟩=some (.string y)/\Below w.heap.size w w')
    (first
      | exact HKS.out _ (Below.drew (Below.refl _ _))
      | (go_split_ands;exact HKS.out _ (by assumption)))
    (first
      | (rw[HE.out];refine(HF.out (s[k]'hk) _ ?_).mono ?_;(go_split_ands;assumption);rintro e w' ⟨rfl,rfl⟩))
  have hbd:Below w.heap.size w w.drew:=(Below.refl _ _).drew
  cases hf:f (s[k]'hk) with
  | true=>
    go_wp2_with fail
    go_ret2
    exact⟨⟨y,rfl,rfl⟩,hbd⟩
  | false=>
    have HO:=Lib.hid (zly s k hk)
    go_wp2_with fail
    all_goals
      go_ret2
      exact⟨⟨_,rfl,by simpa using HO.out⟩,hbd⟩
theorem zkk(F:Nat)(caps:Array Value)(f:UInt8->Bool)(s y:ByteArray)(A:Option Addr)(n c:Nat)(rs:List (Int × Int))(w:World)(hl:Lies w w.heap.size A (zd rs))(hn:rs.length=n)(hs:s.size<=4294967296)(hn2:n<=4294967296)(hby:s.size * (y.size+1)<=70368744177664)
    (hE:∀ args w',Sem.run Tryz.prog (callFunc F args) w'=.ok (.enter F args) w')
    (hF:∀ (b:UInt8) w',Below w.heap.size w w'->Calls Tryz.prog F (#[.int .u8 b.toNat]++ caps) w' fun e w''=>e=.returned (.bool (f b))/\w'=w'') :
    Calls Tryz.prog 163 #[.agg #[.string s,.slice A n c],.func (.func F) #[] caps,.string y] w (zbD ⟨((za8 f y.data.toList (chars s.data.toList rs)).map (·.1)).toArray⟩ (comp ((za8 f y.data.toList (chars s.data.toList rs)).map (·.2))) w):=by
  have HN:=Lib.hid hn
  have HE:=Lib.hid hE
  have HF:=Lib.hid hF
  clear hn hE hF
  have hsl:s.data.toList.length=s.size:=by rw[Array.length_toList];rfl
  have HSL:=Lib.hid hsl
  clear hsl
  go_enter Tryz.func163,Tryz.ntmps163
  go_wp2_with fail
  generalize hwE:(((w.alloc (.cells #[.string s,.slice A n c] 24)).alloc (.cells #[.func (.func F) #[] caps] 141)).alloc (.cells #[.string y] 9)).alloc (.cells #[.string ⟨#[]⟩,.slice none 0 0] 24)=wE
  have y0:Whole wE w.heap.size 24 #[.string s,.slice A n c]:=by rw[<-hwE];exact(((Whole.made w _ _).alloc _).alloc _).alloc _
  have y1:Whole wE (w.heap.size+1) 141 #[.func (.func F) #[] caps]:=by
    rw[<-hwE]
    have h:=((Whole.made (w.alloc (.cells #[.string s,.slice A n c] 24)) 141 #[.func (.func F) #[] caps]).alloc (.cells #[.string y] 9)).alloc (.cells #[.string ⟨#[]⟩,.slice none 0 0] 24)
    simp only[World.size_alloc]at h
    exact h
  have y2:Whole wE (w.heap.size+1+1) 9 #[.string y]:=by
    rw[<-hwE]
    have h:=(Whole.made ((w.alloc (.cells #[.string s,.slice A n c] 24)).alloc (.cells #[.func (.func F) #[] caps] 141)) 9 #[.string y]).alloc (.cells #[.string ⟨#[]⟩,.slice none 0 0] 24)
    simp only[World.size_alloc]at h
    exact h
  have y3:Whole wE (w.heap.size+1+1+1) 24 #[.string ⟨#[]⟩,.slice none 0 0]:=by
    rw[<-hwE]
    have h:=Whole.made (((w.alloc (.cells #[.string s,.slice A n c] 24)).alloc (.cells #[.func (.func F) #[] caps] 141)).alloc (.cells #[.string y] 9)) 24 #[.string ⟨#[]⟩,.slice none 0 0]
    simp only[World.size_alloc]at h
    exact h
  have hzE:wE.heap.size=w.heap.size+4:=by rw[<-hwE];simp
  have hbE:Below w.heap.size w wE:=by rw[<-hwE];exact((((Below.refl _ _).alloc (Nat.le_refl _) _).alloc (by simp) _).alloc (by simp;omega) _).alloc (by simp;omega) _
  have hlE:Lies wE wE.heap.size A (zd rs):=hl.next hbE (Nat.le_refl _)
  clear hwE
  have HLN:Hid ((chars s.data.toList rs).length=s.size):=by show _=_;rw[zbC,HSL.out]
  have HYL:Hid (y.data.toList.length=y.size):=by show _=_;rw[Array.length_toList];rfl
  refine(zfZ 180 #[.pointer (some ⟨w.heap.size+1,0,none⟩),.pointer (some ⟨w.heap.size,0,none⟩),.pointer (some ⟨w.heap.size+1+1,0,none⟩)] (fun _=>False) (fun _ w'=>Below wE.heap.size wE w') (fun k=>za8 f y.data.toList ((chars s.data.toList rs).take k)) s A n c rs wE hlE HN.out hs hn2 (fun _ _=>rfl) (fun _ h=>h.elim) (fun k w' w'' h1 h2=>h1.trans h2) ?_ rfl (Below.refl _ _) ?_).mono ?_
  . intro k b o w' hL hI hN'
    have hk:k < s.size:=by rw[<-HLN.out];exact(List.getElem?_eq_some_iff.1 hL).1
    have hb:s[k]'hk=b:=by
      have h1:(chars s.data.toList rs).map (·.1)=s.data.toList:=zbQ _ _
      have h2:((chars s.data.toList rs).map (·.1))[k]?=some b:=by rw[List.getElem?_map,hL];rfl
      rw[h1,List.getElem?_eq_getElem (by rw[HSL.out];exact hk)]at h2
      injection h2
    have z0:=y0.below hI y0.lt
    have z1:=y1.below hI y1.lt
    have z2:=y2.below hI y2.lt
    refine(zod F caps f w.heap.size (w.heap.size+1) (w.heap.size+1+1) s y (.slice A n c) k o hk hs w' HE.out (fun b w'' hb''=>HF.out b w'' (zb hbE (Nat.le_refl _) (zb hI (Nat.le_refl _) hb''))) z0.lt z1.lt z2.lt (z0.at_ 0) (z0.at_ 1) (z1.at_ 0) (z2.at_ 0)).mono ?_
    rintro e w'' ⟨⟨part,rfl,hp⟩,hb''⟩
    refine⟨part,o,rfl,?_,zb hI (Nat.le_refl _) hb'',Moved.of_below hb''⟩
    rw[hp,hb]
    exact zmx hL
  . intro k _
    refine Nat.le_trans (ze6 _ _ _) (Nat.le_trans (Nat.mul_le_mul_right _ ?_) (by rw[HYL.out];exact hby))
    rw[List.length_take,HLN.out]
    omega
  rintro e w2 ⟨v,rfl,hown,hmv,_⟩
  have hb2:Below wE.heap.size wE w2:=hmv.below (Nat.le_refl _) (fun _ _ h=>h)
  have hful:(chars s.data.toList rs).take s.size=chars s.data.toList rs:=List.take_of_length_le (by rw[HLN.out];exact Nat.le_refl _)
  rw[hful]at hown
  obtain⟨A2,c2,rfl,_,_,_⟩:=zg hown
  have hW:=y3.below hb2 y3.lt
  have f0:=hW.free 0
  have f1:=hW.free 1
  have d0:w2.cell? ⟨w.heap.size+1+1+1,0,none⟩=some (.string ⟨#[]⟩):=hW.at_ 0
  have d1:w2.cell? ⟨w.heap.size+1+1+1,1,none⟩=some (.slice none 0 0):=hW.at_ 1
  have HO:=Lib.hid hown
  have HFUL:=Lib.hid hful
  clear hown hmv hful
  simp only[HFUL.out]at *
  generalize hT:za8 f y.data.toList (chars s.data.toList rs)=T at *
  generalize hq:comp (T.map (·.2))=q at *
  generalize hst:T.map (·.1)=st at *
  have HT:=Lib.hid hT
  have HQ:=Lib.hid hq
  have HS:=Lib.hid hst
  clear hT hq hst
  go_wp2
  refine bodyPost_ret (v:=.agg #[.string ⟨st.toArray⟩,.slice A2 q.length c2]) ?_ rfl ?_
  . simp [results,Tryz.results163,go_sem,d0,d1]
  . rw[HT.out,HQ.out,HS.out]
    exact zag (g:=w.heap.size+1+1+1) (by omega) (zD HO.out (by omega)) (zb hbE (Nat.le_refl _) hb2)
theorem zq2(s y:ByteArray)(x:UInt8)(A:Option Addr)(n c:Nat)(rs:List (Int × Int))(w:World)(hl:Lies w w.heap.size A (zd rs))(hn:rs.length=n)(hs:s.size<=4294967296)(hn2:n<=4294967296)(hby:s.size * (y.size+1)<=70368744177664) :
    Calls Tryz.prog 134 #[.agg #[.string s,.slice A n c],.int .u8 x.toNat,.string y] w (zbD ⟨((za8 (fun b=>b == x) y.data.toList (chars s.data.toList rs)).map (·.1)).toArray⟩ (comp ((za8 (fun b=>b == x) y.data.toList (chars s.data.toList rs)).map (·.2))) w):=by
  have HN:=Lib.hid hn
  clear hn
  go_enter Tryz.func134,Tryz.ntmps134
  go_wp2_with fail
  generalize hwE:((w.alloc (.cells #[.string s,.slice A n c] 24)).alloc (.cells #[.int .u8 x.toNat] 5)).alloc (.cells #[.string ⟨#[]⟩,.slice none 0 0] 24)=wE
  have y1:Whole wE (w.heap.size+1) 5 #[.int .u8 x.toNat]:=by
    rw[<-hwE]
    have h:=(Whole.made (w.alloc (.cells #[.string s,.slice A n c] 24)) 5 #[.int .u8 x.toNat]).alloc (.cells #[.string ⟨#[]⟩,.slice none 0 0] 24)
    simp only[World.size_alloc]at h
    exact h
  have y3:Whole wE (w.heap.size+1+1) 24 #[.string ⟨#[]⟩,.slice none 0 0]:=by
    rw[<-hwE]
    have h:=Whole.made ((w.alloc (.cells #[.string s,.slice A n c] 24)).alloc (.cells #[.int .u8 x.toNat] 5)) 24 #[.string ⟨#[]⟩,.slice none 0 0]
    simp only[World.size_alloc]at h
    exact h
  have hzE:wE.heap.size=w.heap.size+3:=by rw[<-hwE];simp
  have hbE:Below w.heap.size w wE:=by rw[<-hwE];exact(((Below.refl _ _).alloc (Nat.le_refl _) _).alloc (by simp) _).alloc (by simp;omega) _
  have hlE:Lies wE wE.heap.size A (zd rs):=hl.next hbE (Nat.le_refl _)
  clear hwE
  refine(zkk 164 #[.pointer (some ⟨w.heap.size+1,0,none⟩)] (fun b=>b == x) s y A n c rs wE hlE HN.out hs hn2 hby (fun _ _=>rfl) (fun b w' hb=>zn6 b x (w.heap.size+1) w' ((hb.cell y1.lt).trans (y1.at_ 0)))).mono ?_
  generalize hT:za8 (fun b=>b == x) y.data.toList (chars s.data.toList rs)=T at *
  generalize hq:comp (T.map (·.2))=q at *
  generalize hst:T.map (·.1)=st at *
  have HT:=Lib.hid hT
  have HQ:=Lib.hid hq
  have HS:=Lib.hid hst
  clear hT hq hst
  rintro e w2 ⟨v,rfl,hown,hb2⟩
  obtain⟨A2,c2,rfl,_,_,_⟩:=zg hown
  have hW:=y3.below hb2 y3.lt
  have f0:=hW.free 0
  have f1:=hW.free 1
  have d0:w2.cell? ⟨w.heap.size+1+1,0,none⟩=some (.string ⟨#[]⟩):=hW.at_ 0
  have d1:w2.cell? ⟨w.heap.size+1+1,1,none⟩=some (.slice none 0 0):=hW.at_ 1
  have HO:=Lib.hid hown
  clear hown
  go_wp2
  refine bodyPost_ret (v:=.agg #[.string ⟨st.toArray⟩,.slice A2 q.length c2]) ?_ rfl ?_
  . simp [results,Tryz.results134,go_sem,d0,d1]
  . rw[HT.out,HQ.out,HS.out]
    exact zag (g:=w.heap.size+1+1) (by omega) (zD HO.out (by omega)) (zb hbE (Nat.le_refl _) hb2)
def crlf(l:List UInt8)(k:Nat):Bool:=(l.drop k).take 2 == [13,10]
def lfB(b:UInt8):UInt8:=if b=13 then 10 else b
theorem zq3(s:ByteArray)(i:Nat):(s.extract i s.size).data.toList=s.data.toList.drop i:=by
  rw[ByteArray.data_extract,Array.toList_extract,List.extract_eq_take_drop]
  refine List.take_of_length_le ?_
  rw[List.length_drop,Array.length_toList]
  exact Nat.le_refl _
def zoe(s:ByteArray)(k:Nat)(b:UInt8)(o a:Int)(bA:Nat)(w:World)(e:Ending)(w':World):Prop:=
  (crlf s.data.toList k=true/\e=.returned (.tuple #[.string ⟨#[]⟩,.int .i64 o])/\Whole w' bA 3 #[.int .i64 o]/\Moved (fun g=>g=bA) w w')\/
  (crlf s.data.toList k=false/\(∃ part:ByteArray,part.data.toList=[lfB b]/\e=.returned (.tuple #[.string part,.int .i64 (max a o)]))/\Whole w' bA 3 #[.int .i64 0]/\Moved (fun g=>g=bA) w w')
theorem zmy(bS bA:Nat)(s:ByteArray)(v:Value)(k:Nat)(o a:Int)(hk:k < s.size)(hs:s.size<=4294967296)(w:World)(y0:Whole w bS 24 #[.string s,v])(y1:Whole w bA 3 #[.int .i64 a])(hne:bS≠bA) :
    Calls Tryz.prog 44 #[.int .i64 (k:Int),.int .i64 o,.pointer (some ⟨bS,0,none⟩),.pointer (some ⟨bA,0,none⟩)] w (zoe s k (s[k]'hk) o a bA w):=by
  have hk0:(0:Int)<=(k:Int):=Int.natCast_nonneg _
  have hk1:(k:Int) < (s.size:Int):=by omega
  have hk3:(k:Int)<=(s.size:Int):=by omega
  have hk2:(k:Int)+1<=(s.size:Int):=by omega
  have c0:w.cell? ⟨bS,0,none⟩=some (.string s):=y0.at_ 0
  have c1:w.cell? ⟨bA,0,none⟩=some (.int .i64 a):=y1.at_ 0
  have f1:=y1.free 0
  have HTL:Hid ((s.extract k s.size).data.toList=s.data.toList.drop k):=zq3 s k
  go_enter Tryz.func44,Tryz.ntmps44
  go_wp2_with fail
  refine(zbf (s.extract k s.size) ⟨#[13,10]⟩ _).mono ?_
  rw[HTL.out]
  rintro e w' ⟨rfl,rfl⟩
  have HC:Hid (crlf s.data.toList k=(List.take (ByteArray.mk #[13,10]).size (s.data.toList.drop k) == (ByteArray.mk #[13,10]).data.toList)):=rfl
  rw[<-HC.out]
  have hmv:∀ u,Moved (fun g=>g=bA) w (w.setCell ⟨bA,0,none⟩ u):=fun u=>Moved.setCell (S:=fun g=>g=bA) (Moved.refl _ _) (p:=⟨bA,0,none⟩) rfl u
  have HMV:=Lib.hid hmv
  have HY1:=Lib.hid y1
  clear hmv
  cases hc:crlf s.data.toList k with
  | true=>
    have HCC:=Lib.hid hc
    clear hc
    go_wp2_with fail
    go_ret2
    exact .inl ⟨HCC.out,rfl,HY1.out.put 0 _,HMV.out _⟩
  | false=>
    have HCC:=Lib.hid hc
    clear hc
    by_cases hb:s[k]'hk=13
    . have hb1:(((s[k]'hk).toNat:Int) == 13)=true:=by rw[hb];rfl
      have HL:Hid (lfB (s[k]'hk)=10):=by show _=_;unfold lfB;rw[if_pos hb]
      clear hb
      go_wp2_with fail
      all_goals
        go_ret2
        exact .inr ⟨HCC.out,⟨⟨#[10]⟩,by rw[HL.out],rfl⟩,HY1.out.put 0 _,HMV.out _⟩
    . have hb1:(((s[k]'hk).toNat:Int) == 13)=false:=by
        rw[beq_eq_false_iff_ne]
        intro e
        apply hb
        apply UInt8.toNat_inj.1
        show _=13
        omega
      have HL:Hid (lfB (s[k]'hk)=s[k]'hk):=by show _=_;unfold lfB;rw[if_neg hb]
      have HO:=Lib.hid (zly s k hk)
      clear hb
      go_wp2_with fail
      all_goals
        go_ret2
        exact .inr ⟨HCC.out,⟨_,by rw[HL.out];exact HO.out,rfl⟩,HY1.out.put 0 _,HMV.out _⟩
def zad:List (UInt8 × Int)->List (UInt8 × Int)
  | []=>[]
  | [(b,o)]=>[(lfB b,o)]
  | (b,o)::(c,p)::t=>if b=13/\c=10 then (10,max o p)::zad t else (lfB b,o)::zad ((c,p)::t)
theorem zh2(L:List (UInt8 × Int))(k:Nat):crlf (L.map (·.1)) k=true↔∃ o p t,L.drop k=(13,o)::(10,p)::t:=by
  unfold crlf
  rw[<-List.map_drop,beq_iff_eq]
  generalize L.drop k=M
  constructor
  . intro h
    match M,h with
    | [],h=>simp at h
    | [x],h=>simp at h
    | (b,o)::(c,p)::t,h=>
      simp at h
      obtain⟨rfl,rfl⟩:=h
      exact⟨o,p,t,rfl⟩
  . rintro⟨o,p,t,rfl⟩
    simp
theorem zkl(o p:Int)(t:List (UInt8 × Int)):zad ((13,o)::(10,p)::t)=(10,max o p)::zad t:=by
  rw[zad,if_pos ⟨rfl,rfl⟩]
theorem ze7{b:UInt8}{o:Int}{t:List (UInt8 × Int)}(h:¬ ∃ p t',b=13/\t=(10,p)::t'):zad ((b,o)::t)=(lfB b,o)::zad t:=by
  match t,h with
  | [],_=>rw[zad,zad]
  | (c,p)::t,h=>rw[zad,if_neg (fun e=>h ⟨p,t,e.1,by rw[e.2]⟩)]
def pend(L:List (UInt8 × Int)):Nat->Option Int
  | 0=>none
  | k+1=>if crlf (L.map (·.1)) k then some (L.getD k (0,0)).2 else none
def lo(L:List (UInt8 × Int)):Nat->List (UInt8 × Int)
  | 0=>[]
  | k+1=>lo L k++ if crlf (L.map (·.1)) k then [] else [(lfB (L.getD k (0,0)).1,max ((pend L k).getD 0) (L.getD k (0,0)).2)]
def zh3(L:List (UInt8 × Int))(k:Nat):List (UInt8 × Int):=
  match pend L k with
  | none=>L.drop k
  | some a=>(13,a)::L.drop k
theorem zf6{L:List (UInt8 × Int)}{k:Nat}{a:Int}(h:pend L k=some a):∃ p t,L.drop k=(10,p)::t:=by
  cases k with
  | zero=>cases h
  | succ k=>
    rw[pend]at h
    split at h
    . rename_i hc
      obtain⟨o,p,t,e⟩:=(zh2 L k).1 hc
      refine⟨p,t,?_⟩
      rw[<-List.drop_drop,e]
      rfl
    . cases h
theorem zs2(L:List (UInt8 × Int))(hin:∀ o∈L.map (·.2),0<=o)(k:Nat)(hk:k<=L.length):zad L=lo L k++ zad (zh3 L k):=by
  induction k with
  | zero=>rfl
  | succ k ih=>
    rw[ih (by omega)]
    have hk':k < L.length:=by omega
    have hd:L.drop k=L[k]::L.drop (k+1):=List.drop_eq_getElem_cons hk'
    have hg:L.getD k (0,0)=L[k]:=by simp [List.getD,List.getElem?_eq_getElem hk']
    have ho:0<=L[k].2:=hin _ (List.mem_map.2 ⟨L[k],List.getElem_mem hk',rfl⟩)
    cases hc:crlf (L.map (·.1)) k with
    | true=>
      obtain⟨o,p,t,e⟩:=(zh2 L k).1 hc
      have e1:L[k]=(13,o):=by rw[hd]at e;injection e
      have hp:pend L k=none:=by
        cases hp:pend L k with
        | none=>rfl
        | some a=>
          obtain⟨p',t',e'⟩:=zf6 hp
          rw[hd,e1]at e'
          injection e' with e' _
          injection e' with e' _
          exact absurd e' (by decide)
      have hl:lo L (k+1)=lo L k:=by rw[lo,hc];simp
      have hr:zh3 L (k+1)=zh3 L k:=by
        unfold zh3
        rw[hp,pend,hc,if_pos rfl,hg]
        show(13,L[k].2)::L.drop (k+1)=L.drop k
        rw[hd,e1]
      rw[hl,hr]
    | false=>
      have hn:¬ ∃ o p t,L.drop k=(13,o)::(10,p)::t:=by rw[<-zh2,hc];simp
      have hl:lo L (k+1)=lo L k++ [(lfB L[k].1,max ((pend L k).getD 0) L[k].2)]:=by rw[lo,hc,hg];simp
      have hr:zh3 L (k+1)=L.drop (k+1):=by unfold zh3;rw[pend,hc];simp
      rw[hl,hr,List.append_assoc]
      congr 1
      unfold zh3
      cases hp:pend L k with
      | none=>
        show zad (L.drop k)=[(lfB L[k].1,max 0 L[k].2)]++ zad (L.drop (k+1))
        rw[hd,show max 0 L[k].2=L[k].2 by omega]
        refine ze7 ?_
        rintro⟨p,t',e1,e2⟩
        exact hn ⟨L[k].2,p,t',by rw[hd,e2];congr 1;exact Prod.ext e1 rfl⟩
      | some a=>
        obtain⟨p,t',e'⟩:=zf6 hp
        rw[hd]at e'
        injection e' with e1 e2
        show zad ((13,a)::L.drop k)=[(lfB L[k].1,max a L[k].2)]++ zad (L.drop (k+1))
        rw[hd,e1,zkl]
        rfl
theorem zuu(L:List (UInt8 × Int))(hin:∀ o∈L.map (·.2),0<=o):lo L L.length=zad L:=by
  rw[zs2 L hin L.length (Nat.le_refl _)]
  have:zh3 L L.length=[]:=by
    unfold zh3
    cases hp:pend L L.length with
    | none=>simp
    | some a=>
      obtain⟨p,t',e'⟩:=zf6 hp
      rw[List.drop_of_length_le (Nat.le_refl _)]at e'
      cases e'
  rw[this,zad,List.append_nil]
theorem zof(L:List (UInt8 × Int))(k:Nat):(lo L k).length<=k:=by
  induction k with
  | zero=>exact Nat.le_refl _
  | succ k ih=>
    rw[lo,List.length_append]
    have:(if crlf (L.map (·.1)) k then [] else [(lfB (L.getD k (0,0)).1,max ((pend L k).getD 0) (L.getD k (0,0)).2)]).length<=1:=by split<;>simp
    omega
theorem zog(s:ByteArray)(A:Option Addr)(n c:Nat)(rs:List (Int × Int))(w:World)(hl:Lies w w.heap.size A (zd rs))(hn:rs.length=n)(hs:s.size<=4294967296)(hn2:n<=4294967296) :
    Calls Tryz.prog 13 #[.agg #[.string s,.slice A n c]] w (zbD ⟨((zad (chars s.data.toList rs)).map (·.1)).toArray⟩ (comp ((zad (chars s.data.toList rs)).map (·.2))) w):=by
  have HN:=Lib.hid hn
  clear hn
  have hsl:s.data.toList.length=s.size:=by rw[Array.length_toList];rfl
  have HSL:=Lib.hid hsl
  clear hsl
  go_enter Tryz.func13,Tryz.ntmps13
  go_wp2_with fail
  generalize hwE:((w.alloc (.cells #[.string s,.slice A n c] 24)).alloc (.cells #[.string ⟨#[]⟩,.slice none 0 0] 24)).alloc (.cells #[.int .i64 0] 3)=wE
  have y0:Whole wE w.heap.size 24 #[.string s,.slice A n c]:=by rw[<-hwE];exact((Whole.made w _ _).alloc _).alloc _
  have y3:Whole wE (w.heap.size+1) 24 #[.string ⟨#[]⟩,.slice none 0 0]:=by
    rw[<-hwE]
    have h:=(Whole.made (w.alloc (.cells #[.string s,.slice A n c] 24)) 24 #[.string ⟨#[]⟩,.slice none 0 0]).alloc (.cells #[.int .i64 0] 3)
    simp only[World.size_alloc]at h
    exact h
  have y1:Whole wE (w.heap.size+1+1) 3 #[.int .i64 0]:=by
    rw[<-hwE]
    have h:=Whole.made ((w.alloc (.cells #[.string s,.slice A n c] 24)).alloc (.cells #[.string ⟨#[]⟩,.slice none 0 0] 24)) 3 #[.int .i64 0]
    simp only[World.size_alloc]at h
    exact h
  have hzE:wE.heap.size=w.heap.size+3:=by rw[<-hwE];simp
  have hbE:Below w.heap.size w wE:=by rw[<-hwE];exact(((Below.refl _ _).alloc (Nat.le_refl _) _).alloc (by simp) _).alloc (by simp;omega) _
  have hlE:Lies wE wE.heap.size A (zd rs):=hl.next hbE (Nat.le_refl _)
  clear hwE
  have HLN:Hid ((chars s.data.toList rs).length=s.size):=by show _=_;rw[zbC,HSL.out]
  have HLF:Hid ((chars s.data.toList rs).map (·.1)=s.data.toList):=zbQ _ _
  have HLA:Hid (lo (chars s.data.toList rs) s.size=zad (chars s.data.toList rs)):=by
    have h:=zuu (chars s.data.toList rs) (fun o ho=>by rw[zbB]at ho;exact(zdf _ _ o ho).1)
    rw[HLN.out]at h
    exact h
  refine(zfZ 44 #[.pointer (some ⟨w.heap.size,0,none⟩),.pointer (some ⟨w.heap.size+1+1,0,none⟩)] (fun g=>g=w.heap.size+1+1)
    (fun k w'=>Whole w' w.heap.size 24 #[.string s,.slice A n c]/\Whole w' (w.heap.size+1+1) 3 #[.int .i64 ((pend (chars s.data.toList rs) k).getD 0)]/\Kept (fun g=>g=w.heap.size+1+1) wE.heap.size wE w')
    (lo (chars s.data.toList rs)) s A n c rs wE hlE HN.out hs hn2 (fun _ _=>rfl) (fun g h=>by omega)
    (fun k w' w'' h1 h2=>⟨h1.1.below h2 (by omega),h1.2.1.below h2 (by omega),h1.2.2.below h2⟩) ?_ rfl ⟨y0,y1,Kept.refl _ _ _⟩ ?_).mono ?_
  . rintro k b o w' hL ⟨hI1,hI2,hI3⟩ hN'
    have hk:k < s.size:=by rw[<-HLN.out];exact(List.getElem?_eq_some_iff.1 hL).1
    have hb:s[k]'hk=b:=by
      have h2:((chars s.data.toList rs).map (·.1))[k]?=some b:=by rw[List.getElem?_map,hL];rfl
      rw[HLF.out,List.getElem?_eq_getElem (by rw[HSL.out];exact hk)]at h2
      injection h2
    have hg:(chars s.data.toList rs).getD k (0,0)=(b,o):=by simp [List.getD,hL]
    refine(zmy w.heap.size (w.heap.size+1+1) s (.slice A n c) k o ((pend (chars s.data.toList rs) k).getD 0) hk hs w' hI1 hI2 (by omega)).mono ?_
    rintro e w'' (⟨hc,rfl,hW,hm⟩ | ⟨hc,⟨part,hp,rfl⟩,hW,hm⟩)
    . have hz:=hm.size
      rw[<-HLF.out]at hc
      refine⟨⟨#[]⟩,o,rfl,?_,⟨hm.whole hI1 (by omega),?_,hI3.moved hm hN'⟩,hm⟩
      . rw[lo,hc];simp
      . rw[pend,hc,if_pos rfl,hg];exact hW
    . have hz:=hm.size
      rw[<-HLF.out]at hc
      refine⟨part,_,rfl,?_,⟨hm.whole hI1 (by omega),?_,hI3.moved hm hN'⟩,hm⟩
      . rw[lo,hc,hp,hg,hb];simp
      . rw[pend,hc];exact hW
  . intro k hk
    have:=zof (chars s.data.toList rs) k
    omega
  rw[HLA.out]
  generalize hT:zad (chars s.data.toList rs)=T at *
  generalize hq:comp (T.map (·.2))=q at *
  generalize hst:T.map (·.1)=st at *
  have HT:=Lib.hid hT
  have HQ:=Lib.hid hq
  have HS:=Lib.hid hst
  clear hT hq hst
  rintro e w2 ⟨v,rfl,hown,hmv,_⟩
  rw[HQ.out]at hown
  rw[HS.out]
  obtain⟨A2,c2,rfl,_,_,_⟩:=zg hown
  have hW:=hmv.whole y3 (by omega)
  have f0:=hW.free 0
  have f1:=hW.free 1
  have d0:w2.cell? ⟨w.heap.size+1,0,none⟩=some (.string ⟨#[]⟩):=hW.at_ 0
  have d1:w2.cell? ⟨w.heap.size+1,1,none⟩=some (.slice none 0 0):=hW.at_ 1
  have hb2:Below w.heap.size w w2:=hbE.trans (hmv.below (by omega) (fun g h1 h2=>by omega))
  have HO:=Lib.hid hown
  clear hown hmv
  go_wp2
  refine bodyPost_ret (v:=.agg #[.string ⟨st.toArray⟩,.slice A2 q.length c2]) ?_ rfl ?_
  . simp [results,Tryz.results13,go_sem,d0,d1]
  . rw[HT.out,HQ.out,HS.out]
    exact zag (g:=w.heap.size+1) (by omega) (zD HO.out (by omega)) hb2
def zS(ts:List LT):List (UInt8 × Int):=ts.flatMap LT.ch
theorem zoh(ts:List LT):(zS ts).map (·.1)=zfk ts:=by
  induction ts with
  | nil=>rfl
  | cons t ts ih=>simp only[zS,zfk,List.flatMap_cons,List.map_append,LT.ch_fst]at ih ⊢;rw[ih]
theorem zi3(ts:List LT):(zS ts).map (·.2)=zcI ts:=by
  induction ts with
  | nil=>rfl
  | cons t ts ih=>simp only[zS,zcI,List.flatMap_cons,List.map_append,LT.ch_snd]at ih ⊢;rw[ih]
theorem zi4(ts:List LT):(zS ts).length=(zcI ts).length:=by rw[<-zi3,List.length_map]
theorem zd3(ts:List LT)(L:Option Addr)(m c:Nat)(W:World)(hl:Lies W W.heap.size L (zG ts))(hm:ts.length=m)(hm2:m<=4294967296)(hok:∀ t∈ts,t.ok W W.heap.size)(hz:(zS ts).length<=4294967296) :
    Calls Tryz.prog 54 #[.slice L m c] W (zbD (zh (zS ts)) (comp ((zS ts).map (·.2))) W):=by
  have h:=zsT L m c ts W hl hm hm2 hok (by rw[<-zi4];exact hz)
  unfold zh
  rw[zoh,zi3]
  exact h
def zuv:Value->Nat
  | .slice _ n _=>n
  | _=>0
structure AT where
  nm:LT
  vl:LT
def AT.v(a:AT):Value:=.agg #[.string a.nm.s,.slice a.nm.A a.nm.n a.nm.c,.string a.vl.s,.slice a.vl.A a.vl.n a.vl.c]
def AT.ok(w:World)(B:Nat)(a:AT):Prop:=a.nm.ok w B/\a.vl.ok w B
def AT.ch(a:AT):PA:=(a.nm.ch,a.vl.ch)
def zcU(a:AT):List Value:=[.string a.nm.s,.slice a.nm.A a.nm.n a.nm.c,.string a.vl.s,.slice a.vl.A a.vl.n a.vl.c]
def zm(l:List AT):List Value:=l.flatMap zcU
theorem AT.nmB(a:AT):nmB a.ch=a.nm.bs:=LT.ch_fst _
theorem LT.ok.keep{w0 w:World}{B:Nat}{t:LT}(h:t.ok w0 B)(hk:∀ p:Addr,p.block < B->w.cell? p=w0.cell? p):t.ok w B:=⟨h.1.keep hk,h.2⟩
theorem LT.ok.mono{w:World}{B B':Nat}{t:LT}(h:t.ok w B)(hb:B<=B'):t.ok w B':=⟨h.1.mono hb,h.2⟩
theorem AT.ok.keep{w0 w:World}{B:Nat}{t:AT}(h:t.ok w0 B)(hk:∀ p:Addr,p.block < B->w.cell? p=w0.cell? p):t.ok w B:=⟨h.1.keep hk,h.2.keep hk⟩
theorem AT.ok.mono{w:World}{B B':Nat}{t:AT}(h:t.ok w B)(hb:B<=B'):t.ok w B':=⟨h.1.mono hb,h.2.mono hb⟩
theorem AT.ok.next{w0 w:World}{B:Nat}{t:AT}(h:t.ok w0 B)(hb:Below B w0 w)(hz:B<=w0.heap.size):t.ok w w.heap.size:=⟨h.1.next hb hz,h.2.next hb hz⟩
theorem AT.ok.below{w0 w:World}{B:Nat}{t:AT}(h:t.ok w0 B)(hb:Below B w0 w):t.ok w B:=h.keep fun _ hp=>hb.cell hp
theorem zdx(ts:List AT):(zm ts).length=ts.length * 4:=by
  induction ts with
  | nil=>rfl
  | cons r l ih=>simp only[zm,zcU,List.flatMap_cons,List.length_append,List.length_cons,List.length_nil]at ih ⊢;omega
theorem ze8(ts:List AT)(t:AT):zm (ts++ [t])=zm ts++ zcU t:=by simp [zm]
theorem zbN(ts:List AT)(k:Nat)(t:AT)(h:ts[k]?=some t)(j:Nat)(hj:j < 4):(zm ts)[k * 4+j]?=(zcU t)[j]?:=by
  induction ts generalizing k with
  | nil=>simp at h
  | cons x ts ih=>
    have e:zm (x::ts)=zcU x++ zm ts:=rfl
    rw[e]
    have hl:(zcU x).length=4:=rfl
    cases k with
    | zero=>
      simp at h
      subst h
      rw[Nat.zero_mul,Nat.zero_add,List.getElem?_append_left (by omega)]
    | succ k=>
      rw[List.getElem?_append_right (by omega),hl]
      have:(k+1) * 4+j - 4=k * 4+j:=by omega
      rw[this]
      exact ih k (by simpa using h)
theorem zet(ad:Addr)(k:Nat):ad.add (k+1)=⟨(ad.add k).block,(ad.add k).off+1,none⟩/\ad.add (k+2)=⟨(ad.add k).block,(ad.add k).off+2,none⟩/\ad.add (k+3)=⟨(ad.add k).block,(ad.add k).off+3,none⟩:=by
  refine⟨zaF ad k,?_,?_⟩
  . rw[zaF ad (k+1),zaF ad k]
  . rw[zaF ad (k+2),zaF ad (k+1),zaF ad k]
theorem Lies.att{w:World}{B:Nat}{A:Option Addr}{ts:List AT}(h:Lies w B A (zm ts)){k:Nat}(hk:k < ts.length) :
    ∃ ad t,A=some ad/\ad.block < B/\w.cell? (ad.add (k * 4))=some (.string t.nm.s)/\w.cell? ⟨(ad.add (k * 4)).block,(ad.add (k * 4)).off+1,none⟩=some (.slice t.nm.A t.nm.n t.nm.c)/\
      w.cell? ⟨(ad.add (k * 4)).block,(ad.add (k * 4)).off+2,none⟩=some (.string t.vl.s)/\w.cell? ⟨(ad.add (k * 4)).block,(ad.add (k * 4)).off+3,none⟩=some (.slice t.vl.A t.vl.n t.vl.c)/\Hid (ts[k]?=some t):=by
  have ht:ts[k]?=some ts[k]:=List.getElem?_eq_getElem hk
  generalize ts[k]=t at ht
  have key:∀ j u,j < 4->(zcU t)[j]?=some u->∃ ad,A=some ad/\ad.block < B/\w.cell? (ad.add (k * 4+j))=some u:=fun j u hj hu=>h _ _ ((zbN ts k t ht j hj).trans hu)
  obtain⟨ad,e,hb,h0⟩:=key 0 _ (by omega) rfl
  subst e
  have key':∀ j u,j < 4->(zcU t)[j]?=some u->w.cell? (ad.add (k * 4+j))=some u:=by
    intro j u hj hu
    obtain⟨ad',e,_,hc⟩:=key j u hj hu
    injection e with e
    subst e
    exact hc
  obtain⟨e1,e2,e3⟩:=zet ad (k * 4)
  exact⟨ad,t,rfl,hb,h0,by rw[<-e1];exact key' 1 _ (by omega) rfl,by rw[<-e2];exact key' 2 _ (by omega) rfl,by rw[<-e3];exact key' 3 _ (by omega) rfl,ht⟩
def LT.told(t:LT):Prop:=t.rs=comp (t.ch.map (·.2))
def OwnL(w:World)(base:Nat)(t:LT):Prop:=t.rs.length=t.n/\(t.n<=4294967296/\t.told)/\t.s.size<=4294967296/\w.ownsRow base 53 2 (.slice t.A t.n t.c) t.n (zd t.rs)
def OwnA(w:World)(base:Nat)(a:AT):Prop:=OwnL w base a.nm/\OwnL w base a.vl
theorem OwnL.ok{w:World}{base:Nat}{t:LT}(h:OwnL w base t):t.ok w w.heap.size:=⟨Lies.own h.2.2.2,h.1,h.2.1.1,h.2.2.1⟩
theorem OwnA.ok{w:World}{base:Nat}{t:AT}(h:OwnA w base t):t.ok w w.heap.size:=⟨h.1.ok,h.2.ok⟩
theorem OwnL.mono{w:World}{base base':Nat}{t:LT}(h:OwnL w base t)(hb:base'<=base):OwnL w base' t:=⟨h.1,h.2.1,h.2.2.1,zD h.2.2.2 hb⟩
theorem OwnA.mono{w:World}{base base':Nat}{t:AT}(h:OwnA w base t)(hb:base'<=base):OwnA w base' t:=⟨h.1.mono hb,h.2.mono hb⟩
theorem OwnL.keep{w w':World}{base:Nat}{t:LT}(h:OwnL w base t)(hk:∀ g c,base<=g->w.heap[g]?=some (.cells c 53 (0,0))->w'.heap[g]?=w.heap[g]?):OwnL w' base t:=by
  refine⟨h.1,h.2.1,h.2.2.1,zaE h.2.2.2 fun g hg=>?_⟩
  obtain⟨cur,hc⟩:=zaA h.2.2.2 hg
  exact hk g cur (h.2.2.2.lt g hg).1 hc
theorem OwnL.below{w w':World}{base:Nat}{t:LT}(h:OwnL w base t)(hb:Below w.heap.size w w'):OwnL w' base t:=h.keep fun _ _ _ hc=>hb.block _ (Array.getElem?_eq_some_iff.1 hc).1
theorem OwnA.keep{w w':World}{base:Nat}{t:AT}(h:OwnA w base t)(hk:∀ g c,base<=g->w.heap[g]?=some (.cells c 53 (0,0))->w'.heap[g]?=w.heap[g]?):OwnA w' base t:=⟨h.1.keep hk,h.2.keep hk⟩
theorem OwnA.below{w w':World}{base:Nat}{t:AT}(h:OwnA w base t)(hb:Below w.heap.size w w'):OwnA w' base t:=h.keep fun _ _ _ hc=>hb.block _ (Array.getElem?_eq_some_iff.1 hc).1
theorem zeu{w:World}{base n g:Nat}{v:Value}{xs:List Value}{c:Array Value}{size:Nat}{e:TypeId}(ho:w.ownsRow base e size v n xs)(he:e≠53)(hc:w.heap[g]?=some (.cells c 53 (0,0))):some g≠v.ownBlock:=by
  intro h
  obtain⟨cur,hc'⟩:=zaA ho h.symm
  rw[hc]at hc'
  injection hc' with hc'
  injection hc' with _ h _
  exact he h.symm
theorem OwnA.grown{w w':World}{base base' n:Nat}{v:Value}{xs:List Value}{t:AT}{size:Nat}{e:TypeId}(h:OwnA w base t)(ho:w.ownsRow base' e size v n xs)(he:e≠53)(hg:w.grownBy w' v.ownBlock):OwnA w' base t:=
  h.keep fun g _ _ hc=>hg.block g (Array.getElem?_eq_some_iff.1 hc).1 (zeu ho he hc)
def AllOk(w:World)(B:Nat)(ts:List AT):Prop:=∀ t∈ts,t.ok w B
def AllOwn(w:World)(base:Nat)(ts:List AT):Prop:=∀ t∈ts,OwnA w base t
theorem AllOwn.ok{w:World}{base:Nat}{ts:List AT}(h:AllOwn w base ts):AllOk w w.heap.size ts:=fun t ht=>(h t ht).ok
theorem AllOwn.mono{w:World}{base base':Nat}{ts:List AT}(h:AllOwn w base ts)(hb:base'<=base):AllOwn w base' ts:=fun t ht=>(h t ht).mono hb
theorem AllOwn.below{w w':World}{base:Nat}{ts:List AT}(h:AllOwn w base ts)(hb:Below w.heap.size w w'):AllOwn w' base ts:=fun t ht=>(h t ht).below hb
theorem AllOwn.snoc{w:World}{base:Nat}{ts:List AT}{t:AT}(h:AllOwn w base ts)(ht:OwnA w base t):AllOwn w base (ts++ [t]):=by
  intro x hx
  rcases List.mem_append.1 hx with hx | hx
  . exact h x hx
  . simp at hx;subst hx;exact ht
theorem AllOk.next{w0 w:World}{B:Nat}{ts:List AT}(h:AllOk w0 B ts)(hb:Below B w0 w)(hz:B<=w0.heap.size):AllOk w w.heap.size ts:=fun t ht=>(h t ht).next hb hz
theorem AllOk.keep{w0 w:World}{B:Nat}{ts:List AT}(h:AllOk w0 B ts)(hk:∀ p:Addr,p.block < B->w.cell? p=w0.cell? p):AllOk w B ts:=fun t ht=>(h t ht).keep hk
theorem AllOk.get{w:World}{B:Nat}{ts:List AT}(h:AllOk w B ts){k:Nat}{t:AT}(ht:ts[k]?=some t):t.ok w B:=h t (List.mem_of_getElem? ht)
theorem zd4{ts:List AT}{k:Nat}{t:AT}(h:ts[k]?=some t):(ts.map AT.ch)[k]?=some t.ch:=by rw[List.getElem?_map,h];rfl
def zi5(qs:List PA)(w:World)(e:Ending)(w':World):Prop:=
  ∃ A c ts,e=.returned (.slice A ts.length c)/\w'.ownsRow w.heap.size 93 4 (.slice A ts.length c) ts.length (zm ts)/\AllOwn w' w.heap.size ts/\ts.map AT.ch=qs/\Below w.heap.size w w'
theorem zlz:(Tryz.prog.info? 93).map (fun i=>(i.zero,i.size,i.bytes))=some (some (.agg #[.string ⟨#[]⟩,.slice none 0 0,.string ⟨#[]⟩,.slice none 0 0]),4,80):=by kernel_rfl
theorem zf7(s:ByteArray)(rs:List (Int × Int)):chars s.data.toList (zal s.size rs)=chars s.data.toList rs:=by
  have h:=zg4 (InR.chars s.data.toList rs)
  rw[zbQ,zbB]at h
  have hl:s.data.toList.length=s.size:=by rw[Array.length_toList];rfl
  rw[hl]at h
  exact h
theorem zh4{s:ByteArray}{rs:List (Int × Int)}{v:Value}{base:Nat}{w:World}(hs:s.size<=4294967296)(h:w.ownsRow base 53 2 v (zal s.size rs).length (zd (zal s.size rs))) :
    ∃ t:LT,v=.slice t.A t.n t.c/\t.s=s/\t.ch=chars s.data.toList rs/\OwnL w base t:=by
  obtain⟨A,c,rfl,_,_,_⟩:=zg h
  refine⟨⟨s,A,_,c,zal s.size rs⟩,rfl,rfl,zf7 s rs,rfl,⟨?_,?_⟩,hs,h⟩
  rotate_left
  . show zal s.size rs=comp ((chars s.data.toList (zal s.size rs)).map (·.2))
    rw[zf7,zbB,show s.data.toList.length=s.size by rw[Array.length_toList];rfl]
    rfl
  show(zal s.size rs).length<=_
  have:=zE (zN s.size rs)
  rw[zF]at this
  unfold zal
  omega
def upd2(L:Nat->Bool)(i:Nat)(k:Nat):Bool:=if k=i then true else L k
theorem zaK{listed:Array Bool}{i:Nat}(h:i < listed.size):(fun k=>(listed.setIfInBounds i true).getD k false)=upd2 (fun k=>listed.getD k false) i:=by
  funext k
  unfold upd2
  by_cases hk:k=i
  . subst hk;rw[if_pos rfl];simp [Array.getD,h]
  . rw[if_neg hk]
    by_cases hs:k < listed.size
    . simp [Array.getD,hs,Array.getElem_setIfInBounds_ne,Ne.symm hk]
    . simp [Array.getD,hs]
theorem zJ{L:Nat->Bool}{i k:Nat}(h:L k=true):upd2 L i k=true:=by unfold upd2;split<;>first | rfl | exact h
theorem zbh{listed:Array Bool}{i:Nat}(h:listed.getD i true=false):listed.getD i false=false:=by
  unfold Array.getD at h ⊢
  split at h
  . rename_i hi;rw[dif_pos hi];exact h
  . cases h
theorem zq4(a b:UInt8):((a.toNat:Int) == (b.toNat:Int))=(a == b):=by
  rw[Bool.eq_iff_iff]
  simp [<-UInt8.toNat_inj]
  try omega
def txs(p:Ch):List PT:=if p=[] then [] else [txT p]
def sibF:List PT->Ch->List PT
  | [],p=>txs p
  | t::ts,p=>if t.tag=[] then sibF ts (p++ t.text) else txs p++ ⟨t.tag,t.attrs,t.kids,[]⟩ :: sibF ts []
def sibs(L:List PT):List PT:=sibF L []
def mgT(t:PT):PT:=⟨t.tag,zH t.attrs,zj t.kids,t.text⟩
theorem zoi:txs []=[]:=rfl
theorem zdk{p:Ch}(h:p≠[]):txs p=[txT p]:=if_neg h
theorem zsB(p:Ch):mgT (txT p)=txT p:=rfl
theorem zsC(p:Ch):(txs p).map mgT=txs p:=by
  unfold txs
  split
  . rfl
  . rw[List.map_singleton,zsB]
theorem zs3(L:List PT):∀ (out:List PT) (p:Ch),(out=[]\/∃ xs x,out=xs++ [x]/\x.tag≠[])->mgO (out++ txs p) L=out++ (sibF L p).map mgT:=by
  induction L with
  | nil=>intro out p _;rw[mgO,sibF,zsC]
  | cons t ts ih=>
    intro out p hout
    rw[mgO,sibF]
    by_cases ht:t.tag=[]
    . rw[if_pos ht]
      have e:addT (out++ txs p) t t.mg=out++ txs (p++ t.text):=by
        by_cases hx:t.text=[]
        . rw[zcg ht hx,hx,List.append_nil]
        . by_cases hp:p=[]
          . subst hp
            rw[zoi,List.append_nil,List.nil_append,zdk hx]
            rcases hout with rfl | ⟨xs,x,rfl,hxt⟩
            . exact za0 ht hx _
            . exact zby ht hx xs x hxt _
          . rw[zdk hp,zdk (by simp [hp])]
            exact zbr ht hx out (txT p) rfl _
      rw[e,ih _ _ hout]
    . rw[if_neg ht,zbJ ht,PT.mg_eq]
      have h1:=ih (out++ txs p++ [⟨t.tag,zH t.attrs,zj t.kids,[]⟩]) [] (.inr ⟨_,_,rfl,ht⟩)
      rw[zoi,List.append_nil]at h1
      rw[h1,List.map_append,zsC,List.map_cons]
      simp [mgT]
theorem zev(L:List PT):zj L=(sibs L).map mgT:=by
  have h:=zs3 L [] [] (.inl rfl)
  exact h
theorem zft{L:List PT}{k:Nat}{t:PT}(h:L[k]?=some t)(p:Ch):sibF (L.drop k) p=if t.tag=[] then sibF (L.drop (k+1)) (p++ t.text) else txs p++ ⟨t.tag,t.attrs,t.kids,[]⟩ :: sibF (L.drop (k+1)) []:=by
  obtain⟨hk,e⟩:=List.getElem?_eq_some_iff.1 h
  rw[List.drop_eq_getElem_cons hk,e,sibF]
theorem zs4{L:List PT}{k:Nat}(h:L.length<=k)(p:Ch):sibF (L.drop k) p=txs p:=by
  rw[List.drop_of_length_le h,sibF]
def okS(x:PT):Prop:=(x.tag=[]->x=txT x.text/\x.text≠[])/\(x.tag≠[]->x.text=[])
theorem zlG{p:Ch}{x:PT}(h:x∈txs p):okS x/\x.kids=[]:=by
  unfold txs at h
  split at h
  . cases h
  . rename_i hp
    obtain rfl:=List.mem_singleton.1 h
    exact⟨⟨fun _=>⟨rfl,hp⟩,fun h=>absurd rfl h⟩,rfl⟩
theorem zs5(L:List PT):∀ (p:Ch) (x:PT),x∈sibF L p->okS x/\(x.kids=[]\/∃ t∈L,x.kids=t.kids):=by
  induction L with
  | nil=>intro p x h;rw[sibF]at h;exact⟨(zlG h).1,.inl (zlG h).2⟩
  | cons t ts ih=>
    intro p x h
    rw[sibF]at h
    split at h
    . obtain⟨h1,h2⟩:=ih _ _ h
      exact⟨h1,h2.imp id fun⟨y,hy,e⟩=>⟨y,List.mem_cons_of_mem _ hy,e⟩⟩
    . rename_i ht
      rcases List.mem_append.1 h with h | h
      . exact⟨(zlG h).1,.inl (zlG h).2⟩
      . rcases List.mem_cons.1 h with rfl | h
        . exact⟨⟨fun e=>absurd e ht,fun _=>rfl⟩,.inr ⟨t,by simp,rfl⟩⟩
        . obtain⟨h1,h2⟩:=ih _ _ h
          exact⟨h1,h2.imp id fun⟨y,hy,e⟩=>⟨y,List.mem_cons_of_mem _ hy,e⟩⟩
theorem zoj{L:List PT}{x:PT}(h:x∈sibs L):okS x/\(x.kids=[]\/∃ t∈L,x.kids=t.kids):=zs5 L [] x h
abbrev Found:=Ch × Ch × Nat
mutual
def PT.flat:PT->Nat->List Found
  | ⟨tag,_,kids,text⟩,k=>(tag,text,k)::zbE kids (k+1)
def zbE:List PT->Nat->List Found
  | [],_=>[]
  | t::ts,k=>t.flat k++ zbE ts k
end
theorem PT.flat_eq(t:PT)(k:Nat):t.flat k=(t.tag,t.text,k)::zbE t.kids (k+1):=by cases t;rw[PT.flat]
theorem zs6(t:PT)(k:Nat):(mgT t).flat k=(t.tag,t.text,k)::zbE (zj t.kids) (k+1):=by rw[PT.flat_eq];rfl
theorem zs7:∀ (M:List PT) (k:Nat),(zbE M k).length=wtL M:=by
  apply PT.ind
  intro M IH
  induction M with
  | nil=>intro k;rw[zbE,wtL];rfl
  | cons t ts ih=>
    intro k
    rw[zbE,wtL,List.length_append,ih (fun x hx=>IH x (List.mem_cons_of_mem _ hx)) k,PT.flat_eq,List.length_cons,IH t (by simp),PT.wt_eq]
    omega
theorem zok(L:List PT)(k:Nat):zbE (zj L) k=(sibs L).flatMap fun t=>(t.tag,t.text,k)::zbE (zj t.kids) (k+1):=by
  rw[zev]
  induction sibs L with
  | nil=>rw[List.map_nil,zbE];rfl
  | cons t ts ih=>rw[List.map_cons,zbE,ih,zs6,List.flatMap_cons]
def LiesS(S:Nat->Prop)(w:World)(A:Option Addr)(xs:List Value):Prop:=
  ∀ j u,xs[j]?=some u->∃ ad,A=some ad/\S ad.block/\ad.block < w.heap.size/\w.cell? (ad.add j)=some u
def Stays(S:Nat->Prop)(w w':World):Prop:=w.heap.size<=w'.heap.size/\∀ b,S b->b < w.heap.size->w'.heap[b]?=w.heap[b]?
theorem Stays.of{S:Nat->Prop}{w w':World}(h:Below w.heap.size w w'):Stays S w w':=⟨h.size,fun b _ hb=>h.block b hb⟩
theorem Stays.refl(S:Nat->Prop)(w:World):Stays S w w:=⟨Nat.le_refl _,fun _ _ _=>rfl⟩
theorem Stays.trans{S:Nat->Prop}{a b c:World}(h:Stays S a b)(k:Stays S b c):Stays S a c:=⟨Nat.le_trans h.1 k.1,fun x hx hl=>(k.2 x hx (Nat.lt_of_lt_of_le hl h.1)).trans (h.2 x hx hl)⟩
theorem LiesS.keep{S:Nat->Prop}{w w':World}{A:Option Addr}{xs:List Value}(h:LiesS S w A xs)(hk:Stays S w w'):LiesS S w' A xs:=by
  intro j u hu
  obtain⟨ad,e,hs,hb,hc⟩:=h j u hu
  exact⟨ad,e,hs,Nat.lt_of_lt_of_le hb hk.1,(World.cell?_of_block (w:=w) (hk.2 _ (by rw[zW];exact hs) (by rw[zW];exact hb))).trans hc⟩
theorem LiesS.mono{S S':Nat->Prop}{w:World}{A:Option Addr}{xs:List Value}(h:LiesS S w A xs)(hS:∀ b,S b->b < w.heap.size->S' b):LiesS S' w A xs:=by
  intro j u hu
  obtain⟨ad,e,hs,hb,hc⟩:=h j u hu
  exact⟨ad,e,hS _ hs hb,hb,hc⟩
theorem LiesS.lies{S:Nat->Prop}{w:World}{A:Option Addr}{xs:List Value}(h:LiesS S w A xs):Lies w w.heap.size A xs:=by
  intro j u hu
  obtain⟨ad,e,_,hb,hc⟩:=h j u hu
  exact⟨ad,e,hb,hc⟩
theorem Lies.inS{w:World}{B:Nat}{A:Option Addr}{xs:List Value}(h:Lies w B A xs)(hB:B<=w.heap.size):LiesS (fun b=>b < B) w A xs:=by
  intro j u hu
  obtain⟨ad,e,hb,hc⟩:=h j u hu
  exact⟨ad,e,hb,Nat.lt_of_lt_of_le hb hB,hc⟩
theorem zdF{w:World}{base:Nat}{e:TypeId}{size n:Nat}{A:Option Addr}{c:Nat}{xs:List Value}(h:w.ownsRow base e size (.slice A n c) n xs):LiesS (fun b=>base<=b) w A xs:=by
  intro j u hu
  obtain⟨ad,hA,hb,hc⟩:=Lies.own h j u hu
  refine⟨ad,hA,?_,hb,hc⟩
  rcases h.2 with ⟨hv,h0⟩ | ⟨g,cap,cur,hv,hg,_⟩
  . injection hv with hv
    rw[hv]at hA;cases hA
  . injection hv with hv
    rw[hv]at hA
    injection hA with hA
    rw[<-hA]
    exact(h.lt g (by rw[hv];rfl)).1
theorem LiesS.nil(S:Nat->Prop)(w:World)(A:Option Addr):LiesS S w A []:=fun j u h=>by simp at h
def LT.inS(S:Nat->Prop)(w:World)(t:LT):Prop:=LiesS S w t.A (zd t.rs)/\t.rs.length=t.n/\t.n<=4294967296/\t.s.size<=4294967296
theorem LT.inS.ok{S:Nat->Prop}{w:World}{t:LT}(h:t.inS S w):t.ok w w.heap.size:=⟨h.1.lies,h.2⟩
theorem LT.inS.keep{S:Nat->Prop}{w w':World}{t:LT}(h:t.inS S w)(hk:Stays S w w'):t.inS S w':=⟨h.1.keep hk,h.2⟩
theorem LT.inS.mono{S S':Nat->Prop}{w:World}{t:LT}(h:t.inS S w)(hS:∀ b,S b->b < w.heap.size->S' b):t.inS S' w:=⟨h.1.mono hS,h.2⟩
theorem LT.ok.inS{w:World}{B:Nat}{t:LT}(h:t.ok w B)(hB:B<=w.heap.size):t.inS (fun b=>b < B) w:=⟨h.1.inS hB,h.2⟩
theorem OwnL.inS{w:World}{base:Nat}{t:LT}(h:OwnL w base t):t.inS (fun b=>base<=b) w:=⟨zdF h.2.2.2,h.1,h.2.1.1,h.2.2.1⟩
def AT.inS(S:Nat->Prop)(w:World)(a:AT):Prop:=a.nm.inS S w/\a.vl.inS S w
theorem AT.inS.ok{S:Nat->Prop}{w:World}{t:AT}(h:t.inS S w):t.ok w w.heap.size:=⟨h.1.ok,h.2.ok⟩
theorem AT.inS.keep{S:Nat->Prop}{w w':World}{t:AT}(h:t.inS S w)(hk:Stays S w w'):t.inS S w':=⟨h.1.keep hk,h.2.keep hk⟩
theorem AT.inS.mono{S S':Nat->Prop}{w:World}{t:AT}(h:t.inS S w)(hS:∀ b,S b->b < w.heap.size->S' b):t.inS S' w:=⟨h.1.mono hS,h.2.mono hS⟩
theorem AT.ok.inS{w:World}{B:Nat}{t:AT}(h:t.ok w B)(hB:B<=w.heap.size):t.inS (fun b=>b < B) w:=⟨LT.ok.inS h.1 hB,LT.ok.inS h.2 hB⟩
theorem OwnA.inS{w:World}{base:Nat}{t:AT}(h:OwnA w base t):t.inS (fun b=>base<=b) w:=⟨h.1.inS,h.2.inS⟩
structure TT where
  tag:LT
  A:Option Addr
  n:Nat
  c:Nat
  atts:List AT
  K:Option Addr
  kn:Nat
  kc:Nat
  kids:List TT
  text:LT
def zk(t:TT):List Value:=[.string t.tag.s,.slice t.tag.A t.tag.n t.tag.c,.slice t.A t.n t.c,.slice t.K t.kn t.kc,.string t.text.s,.slice t.text.A t.text.n t.text.c]
def zf(l:List TT):List Value:=l.flatMap zk
mutual
def TT.ch:TT->PT
  | ⟨tag,_,_,_,atts,_,_,_,kids,text⟩=>⟨tag.ch,atts.map AT.ch,chL kids,text.ch⟩
def chL:List TT->List PT
  | []=>[]
  | t::ts=>t.ch::chL ts
end
mutual
def TT.nodes:TT->List TT
  | ⟨tag,A,n,c,atts,K,kn,kc,kids,text⟩=>⟨tag,A,n,c,atts,K,kn,kc,kids,text⟩ :: zaV kids
def zaV:List TT->List TT
  | []=>[]
  | t::ts=>t.nodes++ zaV ts
end
theorem TT.ch_eq(t:TT):t.ch=⟨t.tag.ch,t.atts.map AT.ch,chL t.kids,t.text.ch⟩:=by cases t;rw[TT.ch]
theorem TT.nodes_eq(t:TT):t.nodes=t::zaV t.kids:=by cases t;rw[TT.nodes]
theorem TT.ch_tag(t:TT):t.ch.tag=t.tag.ch:=by rw[TT.ch_eq]
theorem TT.ch_attrs(t:TT):t.ch.attrs=t.atts.map AT.ch:=by rw[TT.ch_eq]
theorem TT.ch_kids(t:TT):t.ch.kids=chL t.kids:=by rw[TT.ch_eq]
theorem TT.ch_text(t:TT):t.ch.text=t.text.ch:=by rw[TT.ch_eq]
theorem zch(ts:List TT):chL ts=ts.map TT.ch:=by
  induction ts with
  | nil=>rw[chL];rfl
  | cons t ts ih=>rw[chL,ih];rfl
theorem zx(ts:List TT):(chL ts).length=ts.length:=by rw[zch,List.length_map]
theorem zi6{ts:List TT}{k:Nat}{t:TT}(h:ts[k]?=some t):(chL ts)[k]?=some t.ch:=by rw[zch,List.getElem?_map,h];rfl
theorem zr(ts us:List TT):chL (ts++ us)=chL ts++ chL us:=by simp [zch]
theorem zh5(ts us:List TT):zaV (ts++ us)=zaV ts++ zaV us:=by
  induction ts with
  | nil=>rw[zaV];rfl
  | cons t ts ih=>rw[List.cons_append,zaV,zaV,ih,List.append_assoc]
theorem zmz(t:TT):zaV [t]=t.nodes:=by rw[zaV,zaV,List.append_nil]
theorem zi7{ts:List TT}{t x:TT}(h:t∈ts)(hx:x∈t.nodes):x∈zaV ts:=by
  induction ts with
  | nil=>cases h
  | cons y ts ih=>
    rw[zaV]
    rcases List.mem_cons.1 h with rfl | h
    . exact List.mem_append_left _ hx
    . exact List.mem_append_right _ (ih h)
theorem zq5{ts:List TT}{t:TT}(h:t∈ts):t∈zaV ts:=zi7 h (by rw[TT.nodes_eq];exact List.mem_cons_self)
theorem zq6{ts:List TT}{t x:TT}(h:t∈ts)(hx:x∈zaV t.kids):x∈zaV ts:=zi7 h (by rw[TT.nodes_eq];exact List.mem_cons_of_mem _ hx)
theorem zol{ts:List TT}{x:TT}(h:x∈zaV ts):∃ t∈ts,x∈t.nodes:=by
  induction ts with
  | nil=>rw[zaV]at h;cases h
  | cons y ts ih=>
    rw[zaV]at h
    rcases List.mem_append.1 h with h | h
    . exact⟨y,by simp,h⟩
    . obtain⟨t,ht,hx⟩:=ih h
      exact⟨t,List.mem_cons_of_mem _ ht,hx⟩
structure TT.inS (S:Nat->Prop) (w:World) (t:TT):Prop where
  tag:t.tag.inS S w
  text:t.text.inS S w
  att:LiesS S w t.A (zm t.atts)
  an:t.atts.length=t.n
  ac:t.A=none->t.c=0
  am:t.n<=1048576
  atts:∀ a∈t.atts,a.inS S w
  kid:LiesS S w t.K (zf t.kids)
  kn:t.kids.length=t.kn
  kc:t.K=none->t.kc=0
  km:t.kn<=1048576
theorem TT.inS.keep{S:Nat->Prop}{w w':World}{t:TT}(h:t.inS S w)(hk:Stays S w w'):t.inS S w':=
  ⟨h.tag.keep hk,h.text.keep hk,h.att.keep hk,h.an,h.ac,h.am,fun a ha=>(h.atts a ha).keep hk,h.kid.keep hk,h.kn,h.kc,h.km⟩
theorem TT.inS.mono{S S':Nat->Prop}{w:World}{t:TT}(h:t.inS S w)(hS:∀ b,S b->b < w.heap.size->S' b):t.inS S' w:=
  ⟨h.tag.mono hS,h.text.mono hS,h.att.mono hS,h.an,h.ac,h.am,fun a ha=>(h.atts a ha).mono hS,h.kid.mono hS,h.kn,h.kc,h.km⟩
def AllS(S:Nat->Prop)(w:World)(ts:List TT):Prop:=∀ x∈zaV ts,x.inS S w
theorem AllS.keep{S:Nat->Prop}{w w':World}{ts:List TT}(h:AllS S w ts)(hk:Stays S w w'):AllS S w' ts:=fun x hx=>(h x hx).keep hk
theorem AllS.mono{S S':Nat->Prop}{w:World}{ts:List TT}(h:AllS S w ts)(hS:∀ b,S b->b < w.heap.size->S' b):AllS S' w ts:=fun x hx=>(h x hx).mono hS
theorem AllS.nil(S:Nat->Prop)(w:World):AllS S w []:=fun x hx=>by rw[zaV]at hx;cases hx
theorem AllS.get{S:Nat->Prop}{w:World}{ts:List TT}(h:AllS S w ts){t:TT}(ht:t∈ts):t.inS S w:=h t (zq5 ht)
theorem AllS.kids{S:Nat->Prop}{w:World}{ts:List TT}(h:AllS S w ts){t:TT}(ht:t∈ts):AllS S w t.kids:=fun x hx=>h x (zq6 ht hx)
theorem AllS.append{S:Nat->Prop}{w:World}{ts us:List TT}(h:AllS S w ts)(h2:AllS S w us):AllS S w (ts++ us):=by
  intro x hx
  rw[zh5]at hx
  rcases List.mem_append.1 hx with hx | hx
  . exact h x hx
  . exact h2 x hx
theorem AllS.one{S:Nat->Prop}{w:World}{t:TT}(h:t.inS S w)(hk:AllS S w t.kids):AllS S w [t]:=by
  intro x hx
  rw[zmz,TT.nodes_eq]at hx
  rcases List.mem_cons.1 hx with rfl | hx
  . exact h
  . exact hk x hx
theorem zat(ts:List TT):(zf ts).length=ts.length * 6:=by
  induction ts with
  | nil=>rfl
  | cons r l ih=>simp only[zf,zk,List.flatMap_cons,List.length_append,List.length_cons,List.length_nil]at ih ⊢;omega
theorem zZ(ts:List TT)(t:TT):zf (ts++ [t])=zf ts++ zk t:=by simp [zf]
theorem zaC(ts us:List TT):zf (ts++ us)=zf ts++ zf us:=by simp [zf]
theorem zbt(t:TT):∀ u∈zk t,u.oneCell'=true:=by simp [Value.oneCell',zk]
theorem zd5(ts:List TT):∀ u∈zf ts,u.oneCell'=true:=by
  intro u hu
  unfold zf at hu
  rw[List.mem_flatMap]at hu
  obtain⟨t,_,h⟩:=hu
  exact zbt t u h
theorem zaL(ts:List TT)(k:Nat)(t:TT)(h:ts[k]?=some t)(j:Nat)(hj:j < 6):(zf ts)[k * 6+j]?=(zk t)[j]?:=by
  induction ts generalizing k with
  | nil=>simp at h
  | cons x ts ih=>
    have e:zf (x::ts)=zk x++ zf ts:=rfl
    rw[e]
    have hl:(zk x).length=6:=rfl
    cases k with
    | zero=>
      simp at h
      subst h
      rw[Nat.zero_mul,Nat.zero_add,List.getElem?_append_left (by omega)]
    | succ k=>
      rw[List.getElem?_append_right (by omega),hl]
      have:(k+1) * 6+j - 6=k * 6+j:=by omega
      rw[this]
      exact ih k (by simpa using h)
theorem zh6(ts:List TT)(k:Nat)(t:TT)(h:k < ts.length) :
    ((((((zf ts).set (k * 6) (.string t.tag.s)).set (k * 6+1) (.slice t.tag.A t.tag.n t.tag.c)).set (k * 6+2) (.slice t.A t.n t.c)).set (k * 6+3) (.slice t.K t.kn t.kc)).set (k * 6+4) (.string t.text.s)).set (k * 6+5) (.slice t.text.A t.text.n t.text.c)=zf (ts.set k t):=by
  induction ts generalizing k with
  | nil=>simp at h
  | cons x ts ih=>
    have e:zf (x::ts)=zk x++ zf ts:=rfl
    cases k with
    | zero=>rw[List.set_cons_zero];rfl
    | succ k=>
      rw[List.set_cons_succ]
      have e2:zf (x::ts.set k t)=zk x++ zf (ts.set k t):=rfl
      rw[e,e2,<-ih k (by simpa using h)]
      have hl:(zk x).length=6:=rfl
      have e3:∀ (l:List Value) (j:Nat) (u:Value),(zk x++ l).set ((k+1) * 6+j) u=zk x++ l.set (k * 6+j) u:=by
        intro l j u
        rw[List.set_append,if_neg (by omega),hl]
        congr 2
        omega
      have e4:∀ (l:List Value) (u:Value),(zk x++ l).set ((k+1) * 6) u=zk x++ l.set (k * 6) u:=fun l u=>e3 l 0 u
      rw[e4,e3,e3,e3,e3,e3]
theorem zkm(ad:Addr)(k:Nat):ad.add (k+4)=⟨(ad.add k).block,(ad.add k).off+4,none⟩/\ad.add (k+5)=⟨(ad.add k).block,(ad.add k).off+5,none⟩:=by
  obtain⟨e1,e2,e3⟩:=zet ad k
  have e4:ad.add (k+4)=⟨(ad.add k).block,(ad.add k).off+4,none⟩:=by rw[zaF ad (k+3),e3]
  exact⟨e4,by rw[zaF ad (k+4),e4]⟩
theorem Lies.tree{w:World}{B:Nat}{A:Option Addr}{ts:List TT}(h:Lies w B A (zf ts)){k:Nat}(hk:k < ts.length) :
    ∃ ad t,A=some ad/\ad.block < B/\w.cell? (ad.add (k * 6))=some (.string t.tag.s)/\w.cell? ⟨(ad.add (k * 6)).block,(ad.add (k * 6)).off+1,none⟩=some (.slice t.tag.A t.tag.n t.tag.c)/\
      w.cell? ⟨(ad.add (k * 6)).block,(ad.add (k * 6)).off+2,none⟩=some (.slice t.A t.n t.c)/\w.cell? ⟨(ad.add (k * 6)).block,(ad.add (k * 6)).off+3,none⟩=some (.slice t.K t.kn t.kc)/\
      w.cell? ⟨(ad.add (k * 6)).block,(ad.add (k * 6)).off+4,none⟩=some (.string t.text.s)/\w.cell? ⟨(ad.add (k * 6)).block,(ad.add (k * 6)).off+5,none⟩=some (.slice t.text.A t.text.n t.text.c)/\Hid (ts[k]?=some t):=by
  have ht:ts[k]?=some ts[k]:=List.getElem?_eq_getElem hk
  generalize ts[k]=t at ht
  have key:∀ j u,j < 6->(zk t)[j]?=some u->∃ ad,A=some ad/\ad.block < B/\w.cell? (ad.add (k * 6+j))=some u:=fun j u hj hu=>h _ _ ((zaL ts k t ht j hj).trans hu)
  obtain⟨ad,e,hb,h0⟩:=key 0 _ (by omega) rfl
  subst e
  have key':∀ j u,j < 6->(zk t)[j]?=some u->w.cell? (ad.add (k * 6+j))=some u:=by
    intro j u hj hu
    obtain⟨ad',e,_,hc⟩:=key j u hj hu
    injection e with e
    subst e
    exact hc
  obtain⟨e1,e2,e3⟩:=zet ad (k * 6)
  obtain⟨e4,e5⟩:=zkm ad (k * 6)
  exact⟨ad,t,rfl,hb,h0,by rw[<-e1];exact key' 1 _ (by omega) rfl,by rw[<-e2];exact key' 2 _ (by omega) rfl,by rw[<-e3];exact key' 3 _ (by omega) rfl,by rw[<-e4];exact key' 4 _ (by omega) rfl,by rw[<-e5];exact key' 5 _ (by omega) rfl,ht⟩
def Kz(t:TT):Prop:=t.kids=[]->t.K=none/\t.kc=0
def TellsT(S:Nat->Prop)(qs:List PT)(w:World)(e:Ending)(w':World):Prop:=
  ∃ A c ts,e=.returned (.slice A ts.length c)/\w'.ownsRow w.heap.size 48 6 (.slice A ts.length c) ts.length (zf ts)/\AllS S w' ts/\(chL ts=qs/\(∀ x∈ts,Kz x)/\(ts=[]->A=none/\c=0))/\Below w.heap.size w w'
theorem zcs:(Tryz.prog.info? 48).map (fun i=>(i.zero,i.size,i.bytes))=some (some (.agg #[.string ⟨#[]⟩,.slice none 0 0,.slice none 0 0,.slice none 0 0,.string ⟨#[]⟩,.slice none 0 0]),6,128):=by kernel_rfl
def elB(t:TT):Bool:=!t.tag.ch.isEmpty
theorem zuw(t:TT):elB t=!t.tag.s.data.toList.isEmpty:=by
  unfold elB
  have h1:=t.tag.ch_length
  have h2:t.tag.s.data.toList.length=t.tag.s.size:=by rw[Array.length_toList];rfl
  cases hc:t.tag.ch with
  | nil=>
    rw[hc,List.length_nil]at h1
    have:t.tag.s.data.toList=[]:=List.eq_nil_of_length_eq_zero (by omega)
    rw[this]
    rfl
  | cons x l=>
    rw[hc,List.length_cons]at h1
    cases hd:t.tag.s.data.toList with
    | nil=>rw[hd,List.length_nil]at h2;omega
    | cons y m=>rfl
theorem zom(t:TT):elB t=true↔t.tag.ch≠[]:=by unfold elB;cases t.tag.ch<;>simp
theorem zf8(t:TT)(w:World) :
    Calls Tryz.prog 99 #[.agg #[.string t.tag.s,.slice t.tag.A t.tag.n t.tag.c,.slice t.A t.n t.c,.slice t.K t.kn t.kc,.string t.text.s,.slice t.text.A t.text.n t.text.c]] w fun e w'=>e=.returned (.bool (elB t))/\Below w.heap.size w w':=by
  have hb:Below w.heap.size w (w.alloc (.cells #[.string t.tag.s,.slice t.tag.A t.tag.n t.tag.c,.slice t.A t.n t.c,.slice t.K t.kn t.kc,.string t.text.s,.slice t.text.A t.text.n t.text.c] 48)):=(Below.refl _ _).alloc (Nat.le_refl _) _
  go_enter Tryz.func99,Tryz.ntmps99
  go_wp2_with fail
  go_ret
  refine⟨zB ?_,hb⟩
  rw[zuw,ByteArray.toList_eq]
theorem zkn(t:TT)(w:World) :
    Calls Tryz.prog 49 #[.agg #[.string t.tag.s,.slice t.tag.A t.tag.n t.tag.c,.slice t.A t.n t.c,.slice t.K t.kn t.kc,.string t.text.s,.slice t.text.A t.text.n t.text.c]] w fun e w'=>e=.returned (.bool true)/\Below w.heap.size w w':=by
  have hb:Below w.heap.size w (w.alloc (.cells #[.string t.tag.s,.slice t.tag.A t.tag.n t.tag.c,.slice t.A t.n t.c,.slice t.K t.kn t.kc,.string t.text.s,.slice t.text.A t.text.n t.text.c] 48)):=(Below.refl _ _).alloc (Nat.le_refl _) _
  go_enter Tryz.func49,Tryz.ntmps49
  go_wp2_with fail
  go_ret
  exact⟨rfl,hb⟩
structure Wants (F:Nat) (p:TT->Bool):Prop where
  enters:∀ args w',Sem.run Tryz.prog (callFunc F args) w'=.ok (.enter F args) w'
  tells:∀ (t:TT) w',Calls Tryz.prog F #[.agg #[.string t.tag.s,.slice t.tag.A t.tag.n t.tag.c,.slice t.A t.n t.c,.slice t.K t.kn t.kc,.string t.text.s,.slice t.text.A t.text.n t.text.c]] w' fun e w''=>e=.returned (.bool (p t))/\Below w'.heap.size w' w''
theorem zon:Wants 49 (fun _=>true):=⟨fun _ _=>rfl,zkn⟩
structure TreesIn0 (w:World) (A:Option Addr) (n:Nat) (ts:List TT):Prop where
  lies:LiesS (fun b=>b < w.heap.size) w A (zf ts)
  all:AllS (fun b=>b < w.heap.size) w ts
  len:ts.length=n
  bulk:bkL (chL ts)<=1048576
theorem TreesIn0.next{w w':World}{A:Option Addr}{n:Nat}{ts:List TT}(h:TreesIn0 w A n ts)(hb:Below w.heap.size w w'):TreesIn0 w' A n ts:=
  ⟨(h.lies.keep (Stays.of hb)).mono fun _ hb2 _=>Nat.lt_of_lt_of_le hb2 hb.size,(h.all.keep (Stays.of hb)).mono fun _ hb2 _=>Nat.lt_of_lt_of_le hb2 hb.size,h.len,h.bulk⟩
theorem TreesIn0.small{w:World}{A:Option Addr}{n:Nat}{ts:List TT}(h:TreesIn0 w A n ts):n<=1048576:=by
  have h1:=zaJ (chL ts)
  rw[zx,h.len]at h1
  exact Nat.le_trans h1 h.bulk
theorem TreesIn0.kid{w:World}{A:Option Addr}{n:Nat}{ts:List TT}(h:TreesIn0 w A n ts){x:TT}(hx:x∈ts):TreesIn0 w x.K x.kn x.kids:=by
  have h1:=h.all.get hx
  refine⟨h1.kid,h.all.kids hx,h1.kn,?_⟩
  have h2:x.ch∈chL ts:=by rw[zch];exact List.mem_map.2 ⟨x,hx,rfl⟩
  have h3:=zlv h2
  rw[TT.ch_kids]at h3
  have:=h.bulk
  omega
def noT:LT:=⟨⟨#[]⟩,none,0,0,[]⟩
def txT1(t:LT):TT:=⟨noT,none,0,0,[],none,0,0,[],t⟩
theorem zlH:noT.ch=[]:=by rfl
theorem zci(t:LT):(txT1 t).ch=txT t.ch:=by rw[TT.ch_eq];show(⟨noT.ch,[],chL [],t.ch⟩:PT)=_;rw[zlH,chL];rfl
theorem zlI(S:Nat->Prop)(w:World):noT.inS S w:=⟨LiesS.nil _ _ _,rfl,Nat.zero_le _,Nat.zero_le _⟩
theorem zs8{S:Nat->Prop}{w:World}{t:LT}(h:t.inS S w):(txT1 t).inS S w:=
  ⟨zlI S w,h,LiesS.nil _ _ _,rfl,fun _=>rfl,Nat.zero_le _,(fun a ha=>by cases ha),LiesS.nil _ _ _,rfl,fun _=>rfl,Nat.zero_le _⟩
end Go.Proofs.YtddgabjhligeeaaGreat.mk
