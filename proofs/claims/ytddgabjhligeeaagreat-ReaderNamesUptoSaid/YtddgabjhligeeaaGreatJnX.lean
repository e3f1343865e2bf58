import Derived.Test.YtddgabjhligeeaaGreatJnW
import Derived.Test.YtddgabjhligeeaaGreatJnQ
set_option maxHeartbeats 2000000
set_option maxRecDepth 100000
namespace Go.Proofs.YtddgabjhligeeaaGreat.mk
open Go.RowKit
def zi(l:List (UInt8 × Int)):ByteArray:=⟨(l.map (·.1)).toArray⟩
def runN(l:List (UInt8 × Int)):Nat:=(comp (l.map (·.2))).length
theorem zhB(l:List (UInt8 × Int)):runN l<=l.length:=by
  have:=zD (l.map (·.2))
  rw[List.length_map]at this
  exact this
def LT.ch(t:LT):List (UInt8 × Int):=chars t.bs t.rs
theorem LT.ch_length(t:LT):t.ch.length=t.s.size:=by unfold LT.ch;rw[zbq,LT.bs_length]
theorem LT.ch_fst(t:LT):t.ch.map (·.1)=t.bs:=zbG _ _
theorem LT.ch_snd(t:LT):t.ch.map (·.2)=t.os:=by unfold LT.ch;rw[za5,LT.bs_length];rfl
theorem zG(l:List (UInt8 × Int)):(zi l).size=l.length:=by show(l.map (·.1)).toArray.size=_;simp
theorem zcI{l:List (UInt8 × Int)}(h:InR l):chars (zi l).data.toList (comp (l.map (·.2)))=l:=zeW h
def zjj(l:List (UInt8 × Int))(D:Option Addr)(k:Nat):LT:=⟨zi l,D,runN l,k,comp (l.map (·.2))⟩
theorem zcr{l:List (UInt8 × Int)}(h:InR l)(D:Option Addr)(k:Nat):(zjj l D k).ch=l:=zcI h
theorem LT.ch_in(t:LT):InR t.ch:=InR.chars _ _
abbrev Ch:=List (UInt8 × Int)
abbrev PA:=Ch × Ch
def nmB(p:PA):List UInt8:=p.1.map (·.1)
def zae(L:List PA)(nm:List UInt8):Nat:=L.findIdx (fun p=>nmB p == nm)
def getA(L:List PA)(nm:List UInt8):Option PA:=L[zae L nm]?
def isI(f:PA->Bool)(L:List PA)(i:Nat):Bool:=match L[i]? with | some p=>f p | none=>false
def zcd(p:Nat->Bool)(L:List PA):Nat->List PA
  | 0=>[]
  | k+1=>zcd p L k++ (if p k then (L[k]?).toList else [])
def sel(p:Nat->Bool)(L:List PA):List PA:=zcd p L L.length
def zdL(L:List PA)(i:Nat):Bool:=isI (fun p=>zae L (nmB p) == i) L i
def zag(L:List PA):List PA:=sel (zdL L) L
theorem zku(L:List PA)(nm:List UInt8):zae L nm<=L.length:=List.findIdx_le_length
theorem zbK{L:List PA}{nm:List UInt8}(h:zae L nm < L.length):∃ p,L[zae L nm]?=some p/\nmB p=nm:=by
  refine⟨_,List.getElem?_eq_getElem h,?_⟩
  have:=List.findIdx_getElem (w:=h) (p:=fun p=>nmB p == nm)
  exact beq_iff_eq.1 this
theorem zce{L:List PA}{nm:List UInt8}{i:Nat}{p:PA}(h:i < zae L nm)(hp:L[i]?=some p):nmB p≠nm:=by
  have:=List.not_of_lt_findIdx h
  obtain⟨hi,e⟩:=List.getElem?_eq_some_iff.1 hp
  rw[e]at this
  exact beq_eq_false_iff_ne.1 this
theorem zgy{L:List PA}{nm:List UInt8}{i:Nat}{p:PA}(hp:L[i]?=some p)(hn:nmB p=nm)(hb:∀ (j:Nat) (q:PA),j < i->L[j]?=some q->nmB q≠nm):zae L nm=i:=by
  obtain⟨hi,e⟩:=List.getElem?_eq_some_iff.1 hp
  rcases Nat.lt_trichotomy (zae L nm) i with h | h | h
  . obtain⟨q,hq,hqn⟩:=zbK (Nat.lt_trans h hi)
    exact absurd hqn (hb _ _ h hq)
  . exact h
  . exact absurd hn (zce h hp)
theorem zhC{L:List PA}{nm:List UInt8}(hb:∀ (j:Nat) (q:PA),L[j]?=some q->nmB q≠nm):zae L nm=L.length:=by
  rcases Nat.lt_or_ge (zae L nm) L.length with h | h
  . obtain⟨q,hq,hqn⟩:=zbK h
    exact absurd hqn (hb _ _ hq)
  . exact Nat.le_antisymm (zku _ _) h
theorem zd7{L:List PA}{nm:List UInt8}{i:Nat}{p:PA}(hp:L[i]?=some p)(hn:nmB p=nm):zae L nm<=i:=by
  rcases Nat.lt_or_ge i (zae L nm)with h | h
  . exact absurd hn (zce h hp)
  . exact h
theorem zkv{L:List PA}{nm:List UInt8}{p:PA}(h:getA L nm=some p):nmB p=nm:=by
  have hl:=(List.getElem?_eq_some_iff.1 h).1
  obtain⟨q,hq,hn⟩:=zbK hl
  unfold getA at h
  rw[hq]at h
  injection h with h
  rw[<-h];exact hn
theorem zd8{L:List PA}{nm:List UInt8}(h:getA L nm=none):∀ (j:Nat) (q:PA),L[j]?=some q->nmB q≠nm:=by
  intro j q hq hn
  have h1:=zd7 hq hn
  have h2:=(List.getElem?_eq_some_iff.1 hq).1
  unfold getA at h
  rw[List.getElem?_eq_none_iff]at h
  omega
theorem zdw{L:List PA}{nm:List UInt8}(h:∀ (j:Nat) (q:PA),L[j]?=some q->nmB q≠nm):getA L nm=none:=by
  unfold getA
  rw[zhC h]
  exact List.getElem?_eq_none (Nat.le_refl _)
theorem zhD{L:List PA}{nm:List UInt8}{i:Nat}{p:PA}(hp:L[i]?=some p)(hn:nmB p=nm)(hb:∀ (j:Nat) (q:PA),j < i->L[j]?=some q->nmB q≠nm):getA L nm=some p:=by
  unfold getA
  rw[zgy hp hn hb]
  exact hp
theorem zhE(L M:List PA)(nm:List UInt8):getA (L++ M) nm=(getA L nm).or (getA M nm):=by
  cases h:getA L nm with
  | some p=>
    have hl:=(List.getElem?_eq_some_iff.1 h).1
    refine zhD (i:=zae L nm) ?_ (zkv h) ?_
    . rw[List.getElem?_append_left hl];exact h
    . intro j q hj hq
      rw[List.getElem?_append_left (by omega)]at hq
      exact zce hj hq
  | none=>
    have hn:=zd8 h
    simp only[Option.none_or]
    cases h2:getA M nm with
    | some p=>
      have hl:=(List.getElem?_eq_some_iff.1 h2).1
      refine zhD (i:=L.length+zae M nm) ?_ (zkv h2) ?_
      . rw[List.getElem?_append_right (by omega),Nat.add_sub_cancel_left];exact h2
      . intro j q hj hq
        rcases Nat.lt_or_ge j L.length with h3 | h3
        . rw[List.getElem?_append_left h3]at hq;exact hn _ _ hq
        . rw[List.getElem?_append_right h3]at hq
          exact zce (by omega) hq
    | none=>
      have hm:=zd8 h2
      refine zdw fun j q hq=>?_
      rcases Nat.lt_or_ge j L.length with h3 | h3
      . rw[List.getElem?_append_left h3]at hq;exact hn _ _ hq
      . rw[List.getElem?_append_right h3]at hq;exact hm _ _ hq
theorem zmR(nm:List UInt8):getA [] nm=none:=rfl
theorem ziv(p:PA)(nm:List UInt8):getA [p] nm=if nmB p=nm then some p else none:=by
  by_cases h:nmB p=nm
  . rw[if_pos h]
    exact zhD (i:=0) rfl h (fun j q hj=>by omega)
  . rw[if_neg h]
    refine zdw fun j q hq=>?_
    cases j with
    | zero=>injection hq with hq;rw[<-hq];exact h
    | succ j=>cases hq
theorem zkw{f:PA->Bool}{L:List PA}{i:Nat}{p:PA}(h:L[i]?=some p):isI f L i=f p:=by unfold isI;rw[h]
theorem zc6{p:Nat->Bool}{L:List PA}{k:Nat}{x:PA}(h:L[k]?=some x):zcd p L (k+1)=zcd p L k++ (if p k then [x] else []):=by
  show zcd p L k++ (if p k then (L[k]?).toList else [])=_
  rw[h]
  rfl
theorem zd9(p:Nat->Bool)(L:List PA)(k:Nat):(zcd p L k).length<=k:=by
  induction k with
  | zero=>exact Nat.le_refl _
  | succ k ih=>
    unfold zcd
    rw[List.length_append]
    split
    . cases L[k]?<;>simp<;>omega
    . simp;omega
theorem zfC(p:Nat->Bool)(L:List PA):(sel p L).length<=L.length:=zd9 _ _ _
theorem zjk(p:Nat->Bool)(L:List PA)(k:Nat)(nm:List UInt8):getA (zcd p L (k+1)) nm=(getA (zcd p L k) nm).or (getA (if p k then (L[k]?).toList else []) nm):=zhE _ _ _
theorem zgz(L:List PA)(nm:List UInt8)(k:Nat)(hk:k<=L.length):getA (zcd (zdL L) L k) nm=if zae L nm < k then getA L nm else none:=by
  induction k with
  | zero=>rw[if_neg (by omega)];rfl
  | succ k ih=>
    rw[zjk,ih (by omega)]
    have hx:L[k]?=some (L[k]'(by omega)):=List.getElem?_eq_getElem _
    generalize L[k]'(by omega)=x at hx
    rw[hx]
    by_cases h:zae L nm < k
    . rw[if_pos h,if_pos (show zae L nm < k+1 by omega)]
      unfold getA
      rw[List.getElem?_eq_getElem (show zae L nm < L.length by omega)]
      rfl
    . rw[if_neg h,Option.none_or]
      have hp:zdL L k=(zae L (nmB x) == k):=zkw hx
      rw[hp]
      by_cases h2:zae L nm=k
      . rw[if_pos (show zae L nm < k+1 by omega)]
        obtain⟨y,hy,hyn⟩:=zbK (L:=L) (nm:=nm) (by omega)
        rw[h2,hx]at hy
        injection hy with hy
        subst hy
        have hk2:zae L (nmB x)=k:=by rw[hyn];exact h2
        rw[hk2,beq_self_eq_true,if_pos rfl,Option.toList_some,ziv,if_pos hyn]
        unfold getA
        rw[h2,hx]
      . rw[if_neg (show ¬ zae L nm < k+1 by omega)]
        by_cases h3:zae L (nmB x)=k
        . rw[h3,beq_self_eq_true,if_pos rfl,Option.toList_some,ziv,if_neg]
          intro e
          rw[e]at h3
          exact h2 h3
        . rw[beq_eq_false_iff_ne.2 h3,if_neg (by simp),zmR]
structure PT where
  tag:Ch
  attrs:List PA
  kids:List PT
  text:Ch
def txT(c:Ch):PT:=⟨[],[],[],c⟩
def addT(out:List PT)(t:PT)(ks:List PT):List PT:=
  if t.tag≠[] then out++ [⟨t.tag,zag t.attrs,ks,[]⟩]
  else if t.text=[] then out
  else match out.getLast? with
    | some x=>if x.tag=[] then out.dropLast++ [txT (x.text++ t.text)] else out++ [txT t.text]
    | none=>out++ [txT t.text]
mutual
def PT.mg:PT->List PT
  | ⟨_,_,kids,_⟩=>mgO [] kids
def mgO:List PT->List PT->List PT
  | out,[]=>out
  | out,t::ts=>mgO (addT out t t.mg) ts
end
def zp(l:List PT):List PT:=mgO [] l
mutual
def PT.wt:PT->Nat
  | ⟨_,_,kids,_⟩=>1+wtL kids
def wtL:List PT->Nat
  | []=>0
  | t::ts=>t.wt+wtL ts
end
theorem PT.eta(t:PT):t=⟨t.tag,t.attrs,t.kids,t.text⟩:=by cases t;rfl
theorem PT.mg_eq(t:PT):t.mg=zp t.kids:=by cases t;rw[PT.mg];rfl
theorem PT.wt_eq(t:PT):t.wt=1+wtL t.kids:=by cases t;rw[PT.wt]
theorem zjl(ts us:List PT):∀ out,mgO out (ts++ us)=mgO (mgO out ts) us:=by
  induction ts with
  | nil=>intro out;rw[List.nil_append,mgO]
  | cons t ts ih=>intro out;rw[List.cons_append,mgO,mgO,ih]
theorem zmS(out ts:List PT)(t:PT):mgO out (ts++ [t])=addT (mgO out ts) t t.mg:=by rw[zjl,mgO,mgO]
theorem zc7(ts:List PT)(t:PT):zp (ts++ [t])=addT (zp ts) t (zp t.kids):=by rw[<-PT.mg_eq];exact zmS [] ts t
theorem zmT{L:List PT}{t:PT}(h:t∈L):wtL t.kids < wtL L:=by
  induction L with
  | nil=>cases h
  | cons x L ih=>
    rw[wtL]
    rcases List.mem_cons.1 h with rfl | h
    . have:=t.wt_eq;omega
    . have:=ih h;omega
theorem zkx(L:List PT):L.length<=wtL L:=by
  induction L with
  | nil=>exact Nat.zero_le _
  | cons x L ih=>rw[wtL,List.length_cons];have:=x.wt_eq;omega
theorem PT.ind{p:List PT->Prop}(h:∀ L,(∀ t∈L,p t.kids)->p L):∀ L,p L:=by
  have key:∀ n L,wtL L < n->p L:=by
    intro n
    induction n with
    | zero=>intro L h0;omega
    | succ n ih=>intro L hl;exact h L fun t ht=>ih _ (by have:=zmT ht;omega)
  exact fun L=>key _ L (Nat.lt_succ_self _)
theorem zhF{t:PT}(h:t.tag≠[])(out ks:List PT):addT out t ks=out++ [⟨t.tag,zag t.attrs,ks,[]⟩]:=if_pos h
theorem zky{t:PT}(h:t.tag=[])(h2:t.text=[])(out ks:List PT):addT out t ks=out:=by unfold addT;rw[if_neg (by simp [h]),if_pos h2]
theorem ziw{t:PT}(h:t.tag=[])(h2:t.text≠[])(ks:List PT):addT [] t ks=[txT t.text]:=by unfold addT;rw[if_neg (by simp [h]),if_neg h2];rfl
theorem zkz{t:PT}(h:t.tag=[])(h2:t.text≠[])(out:List PT)(x:PT)(hx:x.tag=[])(ks:List PT):addT (out++ [x]) t ks=out++ [txT (x.text++ t.text)]:=by
  unfold addT;rw[if_neg (by simp [h]),if_neg h2,List.getLast?_concat];simp only[hx,if_true,List.dropLast_concat]
theorem zix{t:PT}(h:t.tag=[])(h2:t.text≠[])(out:List PT)(x:PT)(hx:x.tag≠[])(ks:List PT):addT (out++ [x]) t ks=out++ [x]++ [txT t.text]:=by
  unfold addT;rw[if_neg (by simp [h]),if_neg h2,List.getLast?_concat];simp only[if_neg hx]
theorem zeX{α:Type}(l:List α):l=[]\/∃ xs x,l=xs++ [x]:=by
  rcases l.eq_nil_or_concat with h | ⟨xs,x,h⟩
  . exact .inl h
  . exact .inr ⟨xs,x,by rw[h,List.concat_eq_append]⟩
mutual
def PT.bk:PT->Nat
  | ⟨tag,attrs,kids,text⟩=>tag.length+attrs.length+text.length+1+bkL kids
def bkL:List PT->Nat
  | []=>0
  | t::ts=>t.bk+bkL ts
end
theorem PT.bk_eq(t:PT):t.bk=t.tag.length+t.attrs.length+t.text.length+1+bkL t.kids:=by cases t;rw[PT.bk]
theorem zN(ts us:List PT):bkL (ts++ us)=bkL ts+bkL us:=by
  induction ts with
  | nil=>simp [bkL]
  | cons t ts ih=>rw[List.cons_append,bkL,bkL,ih];omega
theorem zaT(t:PT):bkL [t]=t.bk:=by rw[bkL,bkL];omega
theorem zos{L:List PT}{t:PT}(h:t∈L):t.bk<=bkL L:=by
  induction L with
  | nil=>cases h
  | cons x L ih=>
    rw[bkL]
    rcases List.mem_cons.1 h with rfl | h
    . omega
    . have:=ih h;omega
theorem ziy{L:List PT}{t:PT}(h:t∈L):bkL t.kids < bkL L:=by
  have:=zos h
  have:=t.bk_eq
  omega
theorem zau(L:List PT):L.length<=bkL L:=by
  induction L with
  | nil=>exact Nat.zero_le _
  | cons x L ih=>rw[bkL,List.length_cons];have:=x.bk_eq;omega
theorem zfD(L:List PT)(k:Nat):bkL (L.take k)<=bkL L:=by
  have:=zN (L.take k) (L.drop k)
  rw[List.take_append_drop]at this
  omega
theorem bk_wt:∀ L:List PT,wtL L<=bkL L:=by
  apply PT.ind
  intro L hk
  induction L with
  | nil=>rw[wtL];exact Nat.zero_le _
  | cons x L ih=>
    have h1:=ih fun t ht=>hk t (List.mem_cons_of_mem _ ht)
    have h2:=hk x (by simp)
    rw[wtL,bkL,PT.wt_eq,PT.bk_eq]
    omega
theorem zpt(out ks:List PT)(t:PT)(hk:bkL ks<=bkL t.kids):bkL (addT out t ks)<=bkL out+t.bk:=by
  have hbk:=t.bk_eq
  by_cases ht:t.tag=[]
  . by_cases hx:t.text=[]
    . rw[zky ht hx];omega
    . rcases zeX out with rfl | ⟨xs,y,rfl⟩
      . rw[ziw ht hx,zaT,PT.bk_eq]
        simp only[txT,List.length_nil,bkL]
        omega
      . by_cases hy:y.tag=[]
        . rw[zkz ht hx xs y hy,zN,zN,zaT,zaT,PT.bk_eq,y.bk_eq]
          simp only[txT,List.length_nil,bkL,List.length_append]
          omega
        . rw[zix ht hx xs y hy,zN,zaT (txT _),PT.bk_eq]
          simp only[txT,List.length_nil,bkL]
          omega
  . rw[zhF ht,zN,zaT,PT.bk_eq]
    have:=zfC (zdL t.attrs) t.attrs
    have h2:(zag t.attrs).length<=t.attrs.length:=this
    simp only[List.length_nil]
    omega
theorem zbY:∀ L:List PT,bkL (zp L)<=bkL L:=by
  apply PT.ind
  intro L hk
  induction L using zbw with
  | nil=>exact Nat.le_refl _
  | append_singleton ts t ih=>
    rw[zc7,zN,zaT]
    have h1:=ih fun x hx=>hk x (List.mem_append_left _ hx)
    have h2:=zpt (zp ts) (zp t.kids) t (hk t (by simp))
    omega
structure AT where
  nm:LT
  vl:LT
def AT.v(a:AT):Value:=.agg #[.string a.nm.s,.slice a.nm.A a.nm.n a.nm.c,.string a.vl.s,.slice a.vl.A a.vl.n a.vl.c]
def AT.ok(w:World)(B:Nat)(a:AT):Prop:=a.nm.ok w B/\a.vl.ok w B
def AT.ch(a:AT):PA:=(a.nm.ch,a.vl.ch)
def zb7(a:AT):List Value:=[.string a.nm.s,.slice a.nm.A a.nm.n a.nm.c,.string a.vl.s,.slice a.vl.A a.vl.n a.vl.c]
def zq(l:List AT):List Value:=l.flatMap zb7
theorem AT.nmB(a:AT):nmB a.ch=a.nm.bs:=LT.ch_fst _
theorem LT.ok.keep{w0 w:World}{B:Nat}{t:LT}(h:t.ok w0 B)(hk:∀ p:Addr,p.block < B->w.cell? p=w0.cell? p):t.ok w B:=⟨h.1.keep hk,h.2⟩
theorem LT.ok.mono{w:World}{B B':Nat}{t:LT}(h:t.ok w B)(hb:B<=B'):t.ok w B':=⟨h.1.mono hb,h.2⟩
theorem AT.ok.keep{w0 w:World}{B:Nat}{t:AT}(h:t.ok w0 B)(hk:∀ p:Addr,p.block < B->w.cell? p=w0.cell? p):t.ok w B:=⟨h.1.keep hk,h.2.keep hk⟩
theorem AT.ok.mono{w:World}{B B':Nat}{t:AT}(h:t.ok w B)(hb:B<=B'):t.ok w B':=⟨h.1.mono hb,h.2.mono hb⟩
theorem AT.ok.below{w0 w:World}{B:Nat}{t:AT}(h:t.ok w0 B)(hb:Below B w0 w):t.ok w B:=h.keep fun _ hp=>hb.cell hp
theorem zcC(ts:List AT):(zq ts).length=ts.length * 4:=by
  induction ts with
  | nil=>rfl
  | cons r l ih=>simp only[zq,zb7,List.flatMap_cons,List.length_append,List.length_cons,List.length_nil]at ih ⊢;omega
theorem zdx(ts:List AT)(t:AT):zq (ts++ [t])=zq ts++ zb7 t:=by simp [zq]
theorem zbe(ts:List AT)(k:Nat)(t:AT)(h:ts[k]?=some t)(j:Nat)(hj:j < 4):(zq ts)[k * 4+j]?=(zb7 t)[j]?:=by
  induction ts generalizing k with
  | nil=>simp at h
  | cons x ts ih=>
    have e:zq (x::ts)=zb7 x++ zq ts:=rfl
    rw[e]
    have hl:(zb7 x).length=4:=rfl
    cases k with
    | zero=>
      simp at h
      subst h
      rw[Nat.zero_mul,Nat.zero_add,List.getElem?_append_left (by omega)]
    | succ k=>
      rw[List.getElem?_append_right (by omega),hl]
      have:(k+1) * 4+j - 4=k * 4+j:=by omega
      rw[this]
      exact ih k (by simpa using h)
theorem zc8(ad:Addr)(k:Nat):ad.add (k+1)=⟨(ad.add k).block,(ad.add k).off+1,none⟩/\ad.add (k+2)=⟨(ad.add k).block,(ad.add k).off+2,none⟩/\ad.add (k+3)=⟨(ad.add k).block,(ad.add k).off+3,none⟩:=by
  refine⟨zar ad k,?_,?_⟩
  . rw[zar ad (k+1),zar ad k]
  . rw[zar ad (k+2),zar ad (k+1),zar ad k]
theorem Lies.att{w:World}{B:Nat}{A:Option Addr}{ts:List AT}(h:Lies w B A (zq ts)){k:Nat}(hk:k < ts.length) :
    ∃ ad t,A=some ad/\ad.block < B/\w.cell? (ad.add (k * 4))=some (.string t.nm.s)/\w.cell? ⟨(ad.add (k * 4)).block,(ad.add (k * 4)).off+1,none⟩=some (.slice t.nm.A t.nm.n t.nm.c)/\
      w.cell? ⟨(ad.add (k * 4)).block,(ad.add (k * 4)).off+2,none⟩=some (.string t.vl.s)/\w.cell? ⟨(ad.add (k * 4)).block,(ad.add (k * 4)).off+3,none⟩=some (.slice t.vl.A t.vl.n t.vl.c)/\Hid (ts[k]?=some t):=by
  have ht:ts[k]?=some ts[k]:=List.getElem?_eq_getElem hk
  generalize ts[k]=t at ht
  have key:∀ j u,j < 4->(zb7 t)[j]?=some u->∃ ad,A=some ad/\ad.block < B/\w.cell? (ad.add (k * 4+j))=some u:=fun j u hj hu=>h _ _ ((zbe ts k t ht j hj).trans hu)
  obtain⟨ad,e,hb,h0⟩:=key 0 _ (by omega) rfl
  subst e
  have key':∀ j u,j < 4->(zb7 t)[j]?=some u->w.cell? (ad.add (k * 4+j))=some u:=by
    intro j u hj hu
    obtain⟨ad',e,_,hc⟩:=key j u hj hu
    injection e with e
    subst e
    exact hc
  obtain⟨e1,e2,e3⟩:=zc8 ad (k * 4)
  exact⟨ad,t,rfl,hb,h0,by rw[<-e1];exact key' 1 _ (by omega) rfl,by rw[<-e2];exact key' 2 _ (by omega) rfl,by rw[<-e3];exact key' 3 _ (by omega) rfl,ht⟩
def LT.told(t:LT):Prop:=t.rs=comp (t.ch.map (·.2))
def OwnL(w:World)(base:Nat)(t:LT):Prop:=t.rs.length=t.n/\(t.n<=4294967296/\t.told)/\t.s.size<=4294967296/\w.ownsRow base 53 2 (.slice t.A t.n t.c) t.n (zc t.rs)
def OwnA(w:World)(base:Nat)(a:AT):Prop:=OwnL w base a.nm/\OwnL w base a.vl
theorem OwnL.ok{w:World}{base:Nat}{t:LT}(h:OwnL w base t):t.ok w w.heap.size:=⟨Lies.own h.2.2.2,h.1,h.2.1.1,h.2.2.1⟩
theorem OwnA.ok{w:World}{base:Nat}{t:AT}(h:OwnA w base t):t.ok w w.heap.size:=⟨h.1.ok,h.2.ok⟩
theorem OwnL.mono{w:World}{base base':Nat}{t:LT}(h:OwnL w base t)(hb:base'<=base):OwnL w base' t:=⟨h.1,h.2.1,h.2.2.1,zI h.2.2.2 hb⟩
theorem OwnA.mono{w:World}{base base':Nat}{t:AT}(h:OwnA w base t)(hb:base'<=base):OwnA w base' t:=⟨h.1.mono hb,h.2.mono hb⟩
theorem OwnL.keep{w w':World}{base:Nat}{t:LT}(h:OwnL w base t)(hk:∀ g c,base<=g->w.heap[g]?=some (.cells c 53 (0,0))->w'.heap[g]?=w.heap[g]?):OwnL w' base t:=by
  refine⟨h.1,h.2.1,h.2.2.1,zax h.2.2.2 fun g hg=>?_⟩
  obtain⟨cur,hc⟩:=zaq h.2.2.2 hg
  exact hk g cur (h.2.2.2.lt g hg).1 hc
theorem OwnL.below{w w':World}{base:Nat}{t:LT}(h:OwnL w base t)(hb:Below w.heap.size w w'):OwnL w' base t:=h.keep fun _ _ _ hc=>hb.block _ (Array.getElem?_eq_some_iff.1 hc).1
theorem OwnA.keep{w w':World}{base:Nat}{t:AT}(h:OwnA w base t)(hk:∀ g c,base<=g->w.heap[g]?=some (.cells c 53 (0,0))->w'.heap[g]?=w.heap[g]?):OwnA w' base t:=⟨h.1.keep hk,h.2.keep hk⟩
theorem OwnA.below{w w':World}{base:Nat}{t:AT}(h:OwnA w base t)(hb:Below w.heap.size w w'):OwnA w' base t:=h.keep fun _ _ _ hc=>hb.block _ (Array.getElem?_eq_some_iff.1 hc).1
theorem zeY{w:World}{base n g:Nat}{v:Value}{xs:List Value}{c:Array Value}{size:Nat}{e:TypeId}(ho:w.ownsRow base e size v n xs)(he:e≠53)(hc:w.heap[g]?=some (.cells c 53 (0,0))):some g≠v.ownBlock:=by
  intro h
  obtain⟨cur,hc'⟩:=zaq ho h.symm
  rw[hc]at hc'
  injection hc' with hc'
  injection hc' with _ h _
  exact he h.symm
theorem OwnA.grown{w w':World}{base base' n:Nat}{v:Value}{xs:List Value}{t:AT}{size:Nat}{e:TypeId}(h:OwnA w base t)(ho:w.ownsRow base' e size v n xs)(he:e≠53)(hg:w.grownBy w' v.ownBlock):OwnA w' base t:=
  h.keep fun g _ _ hc=>hg.block g (Array.getElem?_eq_some_iff.1 hc).1 (zeY ho he hc)
def AllOk(w:World)(B:Nat)(ts:List AT):Prop:=∀ t∈ts,t.ok w B
def AllOwn(w:World)(base:Nat)(ts:List AT):Prop:=∀ t∈ts,OwnA w base t
theorem AllOwn.ok{w:World}{base:Nat}{ts:List AT}(h:AllOwn w base ts):AllOk w w.heap.size ts:=fun t ht=>(h t ht).ok
theorem AllOwn.mono{w:World}{base base':Nat}{ts:List AT}(h:AllOwn w base ts)(hb:base'<=base):AllOwn w base' ts:=fun t ht=>(h t ht).mono hb
theorem AllOwn.below{w w':World}{base:Nat}{ts:List AT}(h:AllOwn w base ts)(hb:Below w.heap.size w w'):AllOwn w' base ts:=fun t ht=>(h t ht).below hb
theorem AllOwn.snoc{w:World}{base:Nat}{ts:List AT}{t:AT}(h:AllOwn w base ts)(ht:OwnA w base t):AllOwn w base (ts++ [t]):=by
  intro x hx
  rcases List.mem_append.1 hx with hx | hx
  . exact h x hx
  . simp at hx;subst hx;exact ht
theorem AllOk.keep{w0 w:World}{B:Nat}{ts:List AT}(h:AllOk w0 B ts)(hk:∀ p:Addr,p.block < B->w.cell? p=w0.cell? p):AllOk w B ts:=fun t ht=>(h t ht).keep hk
theorem AllOk.get{w:World}{B:Nat}{ts:List AT}(h:AllOk w B ts){k:Nat}{t:AT}(ht:ts[k]?=some t):t.ok w B:=h t (List.mem_of_getElem? ht)
theorem ziz{ts:List AT}{k:Nat}{t:AT}(h:ts[k]?=some t):(ts.map AT.ch)[k]?=some t.ch:=by rw[List.getElem?_map,h];rfl
def zgA(qs:List PA)(w:World)(e:Ending)(w':World):Prop:=
  ∃ A c ts,e=.returned (.slice A ts.length c)/\w'.ownsRow w.heap.size 93 4 (.slice A ts.length c) ts.length (zq ts)/\AllOwn w' w.heap.size ts/\ts.map AT.ch=qs/\Below w.heap.size w w'
theorem ziA:(Tryz.prog.info? 93).map (fun i=>(i.zero,i.size,i.bytes))=some (some (.agg #[.string ⟨#[]⟩,.slice none 0 0,.string ⟨#[]⟩,.slice none 0 0]),4,80):=by kernel_rfl
theorem zea(s:ByteArray)(rs:List (Int × Int)):chars s.data.toList (zan s.size rs)=chars s.data.toList rs:=by
  have h:=zeW (InR.chars s.data.toList rs)
  rw[zbG,za5]at h
  have hl:s.data.toList.length=s.size:=by rw[Array.length_toList];rfl
  rw[hl]at h
  exact h
theorem zfE{s:ByteArray}{rs:List (Int × Int)}{v:Value}{base:Nat}{w:World}(hs:s.size<=4294967296)(h:w.ownsRow base 53 2 v (zan s.size rs).length (zc (zan s.size rs))) :
    ∃ t:LT,v=.slice t.A t.n t.c/\t.s=s/\t.ch=chars s.data.toList rs/\OwnL w base t:=by
  obtain⟨A,c,rfl,_,_,_⟩:=zh h
  refine⟨⟨s,A,_,c,zan s.size rs⟩,rfl,rfl,zea s rs,rfl,⟨?_,?_⟩,hs,h⟩
  rotate_left
  . show zan s.size rs=comp ((chars s.data.toList (zan s.size rs)).map (·.2))
    rw[zea,za5,show s.data.toList.length=s.size by rw[Array.length_toList];rfl]
    rfl
  show(zan s.size rs).length<=_
  have:=zD (zF s.size rs)
  rw[zC]at this
  unfold zan
  omega
def LiesS(S:Nat->Prop)(w:World)(A:Option Addr)(xs:List Value):Prop:=
  ∀ j u,xs[j]?=some u->∃ ad,A=some ad/\S ad.block/\ad.block < w.heap.size/\w.cell? (ad.add j)=some u
def Stays(S:Nat->Prop)(w w':World):Prop:=w.heap.size<=w'.heap.size/\∀ b,S b->b < w.heap.size->w'.heap[b]?=w.heap[b]?
theorem Stays.of{S:Nat->Prop}{w w':World}(h:Below w.heap.size w w'):Stays S w w':=⟨h.size,fun b _ hb=>h.block b hb⟩
theorem Stays.refl(S:Nat->Prop)(w:World):Stays S w w:=⟨Nat.le_refl _,fun _ _ _=>rfl⟩
theorem Stays.trans{S:Nat->Prop}{a b c:World}(h:Stays S a b)(k:Stays S b c):Stays S a c:=⟨Nat.le_trans h.1 k.1,fun x hx hl=>(k.2 x hx (Nat.lt_of_lt_of_le hl h.1)).trans (h.2 x hx hl)⟩
theorem LiesS.keep{S:Nat->Prop}{w w':World}{A:Option Addr}{xs:List Value}(h:LiesS S w A xs)(hk:Stays S w w'):LiesS S w' A xs:=by
  intro j u hu
  obtain⟨ad,e,hs,hb,hc⟩:=h j u hu
  exact⟨ad,e,hs,Nat.lt_of_lt_of_le hb hk.1,(World.cell?_of_block (w:=w) (hk.2 _ (by rw[zU];exact hs) (by rw[zU];exact hb))).trans hc⟩
theorem LiesS.mono{S S':Nat->Prop}{w:World}{A:Option Addr}{xs:List Value}(h:LiesS S w A xs)(hS:∀ b,S b->b < w.heap.size->S' b):LiesS S' w A xs:=by
  intro j u hu
  obtain⟨ad,e,hs,hb,hc⟩:=h j u hu
  exact⟨ad,e,hS _ hs hb,hb,hc⟩
theorem LiesS.lies{S:Nat->Prop}{w:World}{A:Option Addr}{xs:List Value}(h:LiesS S w A xs):Lies w w.heap.size A xs:=by
  intro j u hu
  obtain⟨ad,e,_,hb,hc⟩:=h j u hu
  exact⟨ad,e,hb,hc⟩
theorem Lies.inS{w:World}{B:Nat}{A:Option Addr}{xs:List Value}(h:Lies w B A xs)(hB:B<=w.heap.size):LiesS (fun b=>b < B) w A xs:=by
  intro j u hu
  obtain⟨ad,e,hb,hc⟩:=h j u hu
  exact⟨ad,e,hb,Nat.lt_of_lt_of_le hb hB,hc⟩
theorem zbZ{w:World}{base:Nat}{e:TypeId}{size n:Nat}{A:Option Addr}{c:Nat}{xs:List Value}(h:w.ownsRow base e size (.slice A n c) n xs):LiesS (fun b=>base<=b) w A xs:=by
  intro j u hu
  obtain⟨ad,hA,hb,hc⟩:=Lies.own h j u hu
  refine⟨ad,hA,?_,hb,hc⟩
  rcases h.2 with ⟨hv,h0⟩ | ⟨g,cap,cur,hv,hg,_⟩
  . injection hv with hv
    rw[hv]at hA;cases hA
  . injection hv with hv
    rw[hv]at hA
    injection hA with hA
    rw[<-hA]
    exact(h.lt g (by rw[hv];rfl)).1
theorem LiesS.nil(S:Nat->Prop)(w:World)(A:Option Addr):LiesS S w A []:=fun j u h=>by simp at h
def LT.inS(S:Nat->Prop)(w:World)(t:LT):Prop:=LiesS S w t.A (zc t.rs)/\t.rs.length=t.n/\t.n<=4294967296/\t.s.size<=4294967296
theorem LT.inS.ok{S:Nat->Prop}{w:World}{t:LT}(h:t.inS S w):t.ok w w.heap.size:=⟨h.1.lies,h.2⟩
theorem LT.inS.keep{S:Nat->Prop}{w w':World}{t:LT}(h:t.inS S w)(hk:Stays S w w'):t.inS S w':=⟨h.1.keep hk,h.2⟩
theorem LT.inS.mono{S S':Nat->Prop}{w:World}{t:LT}(h:t.inS S w)(hS:∀ b,S b->b < w.heap.size->S' b):t.inS S' w:=⟨h.1.mono hS,h.2⟩
theorem LT.ok.inS{w:World}{B:Nat}{t:LT}(h:t.ok w B)(hB:B<=w.heap.size):t.inS (fun b=>b < B) w:=⟨h.1.inS hB,h.2⟩
theorem OwnL.inS{w:World}{base:Nat}{t:LT}(h:OwnL w base t):t.inS (fun b=>base<=b) w:=⟨zbZ h.2.2.2,h.1,h.2.1.1,h.2.2.1⟩
def AT.inS(S:Nat->Prop)(w:World)(a:AT):Prop:=a.nm.inS S w/\a.vl.inS S w
theorem AT.inS.ok{S:Nat->Prop}{w:World}{t:AT}(h:t.inS S w):t.ok w w.heap.size:=⟨h.1.ok,h.2.ok⟩
theorem AT.inS.keep{S:Nat->Prop}{w w':World}{t:AT}(h:t.inS S w)(hk:Stays S w w'):t.inS S w':=⟨h.1.keep hk,h.2.keep hk⟩
theorem AT.inS.mono{S S':Nat->Prop}{w:World}{t:AT}(h:t.inS S w)(hS:∀ b,S b->b < w.heap.size->S' b):t.inS S' w:=⟨h.1.mono hS,h.2.mono hS⟩
theorem AT.ok.inS{w:World}{B:Nat}{t:AT}(h:t.ok w B)(hB:B<=w.heap.size):t.inS (fun b=>b < B) w:=⟨LT.ok.inS h.1 hB,LT.ok.inS h.2 hB⟩
theorem OwnA.inS{w:World}{base:Nat}{t:AT}(h:OwnA w base t):t.inS (fun b=>base<=b) w:=⟨h.1.inS,h.2.inS⟩
structure TT where
  tag:LT
  A:Option Addr
  n:Nat
  c:Nat
  atts:List AT
  K:Option Addr
  kn:Nat
  kc:Nat
  kids:List TT
  text:LT
def zj(t:TT):List Value:=[.string t.tag.s,.slice t.tag.A t.tag.n t.tag.c,.slice t.A t.n t.c,.slice t.K t.kn t.kc,.string t.text.s,.slice t.text.A t.text.n t.text.c]
def ze(l:List TT):List Value:=l.flatMap zj
mutual
def TT.ch:TT->PT
  | ⟨tag,_,_,_,atts,_,_,_,kids,text⟩=>⟨tag.ch,atts.map AT.ch,chL kids,text.ch⟩
def chL:List TT->List PT
  | []=>[]
  | t::ts=>t.ch::chL ts
end
mutual
def TT.nodes:TT->List TT
  | ⟨tag,A,n,c,atts,K,kn,kc,kids,text⟩=>⟨tag,A,n,c,atts,K,kn,kc,kids,text⟩ :: zaC kids
def zaC:List TT->List TT
  | []=>[]
  | t::ts=>t.nodes++ zaC ts
end
theorem TT.ch_eq(t:TT):t.ch=⟨t.tag.ch,t.atts.map AT.ch,chL t.kids,t.text.ch⟩:=by cases t;rw[TT.ch]
theorem TT.nodes_eq(t:TT):t.nodes=t::zaC t.kids:=by cases t;rw[TT.nodes]
theorem TT.ch_tag(t:TT):t.ch.tag=t.tag.ch:=by rw[TT.ch_eq]
theorem TT.ch_attrs(t:TT):t.ch.attrs=t.atts.map AT.ch:=by rw[TT.ch_eq]
theorem TT.ch_kids(t:TT):t.ch.kids=chL t.kids:=by rw[TT.ch_eq]
theorem TT.ch_text(t:TT):t.ch.text=t.text.ch:=by rw[TT.ch_eq]
theorem zeb(ts:List TT):chL ts=ts.map TT.ch:=by
  induction ts with
  | nil=>rw[chL];rfl
  | cons t ts ih=>rw[chL,ih];rfl
theorem zv(ts:List TT):(chL ts).length=ts.length:=by rw[zeb,List.length_map]
theorem ziB{ts:List TT}{k:Nat}{t:TT}(h:ts[k]?=some t):(chL ts)[k]?=some t.ch:=by rw[zeb,List.getElem?_map,h];rfl
theorem zn(ts us:List TT):chL (ts++ us)=chL ts++ chL us:=by simp [zeb]
theorem zfF(ts us:List TT):zaC (ts++ us)=zaC ts++ zaC us:=by
  induction ts with
  | nil=>rw[zaC];rfl
  | cons t ts ih=>rw[List.cons_append,zaC,zaC,ih,List.append_assoc]
theorem zjm(t:TT):zaC [t]=t.nodes:=by rw[zaC,zaC,List.append_nil]
theorem zgB{ts:List TT}{t x:TT}(h:t∈ts)(hx:x∈t.nodes):x∈zaC ts:=by
  induction ts with
  | nil=>cases h
  | cons y ts ih=>
    rw[zaC]
    rcases List.mem_cons.1 h with rfl | h
    . exact List.mem_append_left _ hx
    . exact List.mem_append_right _ (ih h)
theorem zmU{ts:List TT}{t:TT}(h:t∈ts):t∈zaC ts:=zgB h (by rw[TT.nodes_eq];exact List.mem_cons_self)
theorem zmV{ts:List TT}{t x:TT}(h:t∈ts)(hx:x∈zaC t.kids):x∈zaC ts:=zgB h (by rw[TT.nodes_eq];exact List.mem_cons_of_mem _ hx)
theorem zkA{ts:List TT}{x:TT}(h:x∈zaC ts):∃ t∈ts,x∈t.nodes:=by
  induction ts with
  | nil=>rw[zaC]at h;cases h
  | cons y ts ih=>
    rw[zaC]at h
    rcases List.mem_append.1 h with h | h
    . exact⟨y,by simp,h⟩
    . obtain⟨t,ht,hx⟩:=ih h
      exact⟨t,List.mem_cons_of_mem _ ht,hx⟩
structure TT.inS (S:Nat->Prop) (w:World) (t:TT):Prop where
  tag:t.tag.inS S w
  text:t.text.inS S w
  att:LiesS S w t.A (zq t.atts)
  an:t.atts.length=t.n
  ac:t.A=none->t.c=0
  am:t.n<=1048576
  atts:∀ a∈t.atts,a.inS S w
  kid:LiesS S w t.K (ze t.kids)
  kn:t.kids.length=t.kn
  kc:t.K=none->t.kc=0
  km:t.kn<=1048576
theorem TT.inS.keep{S:Nat->Prop}{w w':World}{t:TT}(h:t.inS S w)(hk:Stays S w w'):t.inS S w':=
  ⟨h.tag.keep hk,h.text.keep hk,h.att.keep hk,h.an,h.ac,h.am,fun a ha=>(h.atts a ha).keep hk,h.kid.keep hk,h.kn,h.kc,h.km⟩
theorem TT.inS.mono{S S':Nat->Prop}{w:World}{t:TT}(h:t.inS S w)(hS:∀ b,S b->b < w.heap.size->S' b):t.inS S' w:=
  ⟨h.tag.mono hS,h.text.mono hS,h.att.mono hS,h.an,h.ac,h.am,fun a ha=>(h.atts a ha).mono hS,h.kid.mono hS,h.kn,h.kc,h.km⟩
def AllS(S:Nat->Prop)(w:World)(ts:List TT):Prop:=∀ x∈zaC ts,x.inS S w
theorem AllS.keep{S:Nat->Prop}{w w':World}{ts:List TT}(h:AllS S w ts)(hk:Stays S w w'):AllS S w' ts:=fun x hx=>(h x hx).keep hk
theorem AllS.mono{S S':Nat->Prop}{w:World}{ts:List TT}(h:AllS S w ts)(hS:∀ b,S b->b < w.heap.size->S' b):AllS S' w ts:=fun x hx=>(h x hx).mono hS
theorem AllS.nil(S:Nat->Prop)(w:World):AllS S w []:=fun x hx=>by rw[zaC]at hx;cases hx
theorem AllS.get{S:Nat->Prop}{w:World}{ts:List TT}(h:AllS S w ts){t:TT}(ht:t∈ts):t.inS S w:=h t (zmU ht)
theorem AllS.kids{S:Nat->Prop}{w:World}{ts:List TT}(h:AllS S w ts){t:TT}(ht:t∈ts):AllS S w t.kids:=fun x hx=>h x (zmV ht hx)
theorem AllS.append{S:Nat->Prop}{w:World}{ts us:List TT}(h:AllS S w ts)(h2:AllS S w us):AllS S w (ts++ us):=by
  intro x hx
  rw[zfF]at hx
  rcases List.mem_append.1 hx with hx | hx
  . exact h x hx
  . exact h2 x hx
theorem AllS.one{S:Nat->Prop}{w:World}{t:TT}(h:t.inS S w)(hk:AllS S w t.kids):AllS S w [t]:=by
  intro x hx
  rw[zjm,TT.nodes_eq]at hx
  rcases List.mem_cons.1 hx with rfl | hx
  . exact h
  . exact hk x hx
theorem zac(ts:List TT):(ze ts).length=ts.length * 6:=by
  induction ts with
  | nil=>rfl
  | cons r l ih=>simp only[ze,zj,List.flatMap_cons,List.length_append,List.length_cons,List.length_nil]at ih ⊢;omega
theorem zL(ts:List TT)(t:TT):ze (ts++ [t])=ze ts++ zj t:=by simp [ze]
theorem zao(ts us:List TT):ze (ts++ us)=ze ts++ ze us:=by simp [ze]
theorem zaZ(t:TT):∀ u∈zj t,u.oneCell'=true:=by simp [Value.oneCell',zj]
theorem zcS(ts:List TT):∀ u∈ze ts,u.oneCell'=true:=by
  intro u hu
  unfold ze at hu
  rw[List.mem_flatMap]at hu
  obtain⟨t,_,h⟩:=hu
  exact zaZ t u h
theorem zav(ts:List TT)(k:Nat)(t:TT)(h:ts[k]?=some t)(j:Nat)(hj:j < 6):(ze ts)[k * 6+j]?=(zj t)[j]?:=by
  induction ts generalizing k with
  | nil=>simp at h
  | cons x ts ih=>
    have e:ze (x::ts)=zj x++ ze ts:=rfl
    rw[e]
    have hl:(zj x).length=6:=rfl
    cases k with
    | zero=>
      simp at h
      subst h
      rw[Nat.zero_mul,Nat.zero_add,List.getElem?_append_left (by omega)]
    | succ k=>
      rw[List.getElem?_append_right (by omega),hl]
      have:(k+1) * 6+j - 6=k * 6+j:=by omega
      rw[this]
      exact ih k (by simpa using h)
theorem zfG(ts:List TT)(k:Nat)(t:TT)(h:k < ts.length) :
    ((((((ze ts).set (k * 6) (.string t.tag.s)).set (k * 6+1) (.slice t.tag.A t.tag.n t.tag.c)).set (k * 6+2) (.slice t.A t.n t.c)).set (k * 6+3) (.slice t.K t.kn t.kc)).set (k * 6+4) (.string t.text.s)).set (k * 6+5) (.slice t.text.A t.text.n t.text.c)=ze (ts.set k t):=by
  induction ts generalizing k with
  | nil=>simp at h
  | cons x ts ih=>
    have e:ze (x::ts)=zj x++ ze ts:=rfl
    cases k with
    | zero=>rw[List.set_cons_zero];rfl
    | succ k=>
      rw[List.set_cons_succ]
      have e2:ze (x::ts.set k t)=zj x++ ze (ts.set k t):=rfl
      rw[e,e2,<-ih k (by simpa using h)]
      have hl:(zj x).length=6:=rfl
      have e3:∀ (l:List Value) (j:Nat) (u:Value),(zj x++ l).set ((k+1) * 6+j) u=zj x++ l.set (k * 6+j) u:=by
        intro l j u
        rw[List.set_append,if_neg (by omega),hl]
        congr 2
        omega
      have e4:∀ (l:List Value) (u:Value),(zj x++ l).set ((k+1) * 6) u=zj x++ l.set (k * 6) u:=fun l u=>e3 l 0 u
      rw[e4,e3,e3,e3,e3,e3]
theorem zhG(ad:Addr)(k:Nat):ad.add (k+4)=⟨(ad.add k).block,(ad.add k).off+4,none⟩/\ad.add (k+5)=⟨(ad.add k).block,(ad.add k).off+5,none⟩:=by
  obtain⟨e1,e2,e3⟩:=zc8 ad k
  have e4:ad.add (k+4)=⟨(ad.add k).block,(ad.add k).off+4,none⟩:=by rw[zar ad (k+3),e3]
  exact⟨e4,by rw[zar ad (k+4),e4]⟩
theorem Lies.tree{w:World}{B:Nat}{A:Option Addr}{ts:List TT}(h:Lies w B A (ze ts)){k:Nat}(hk:k < ts.length) :
    ∃ ad t,A=some ad/\ad.block < B/\w.cell? (ad.add (k * 6))=some (.string t.tag.s)/\w.cell? ⟨(ad.add (k * 6)).block,(ad.add (k * 6)).off+1,none⟩=some (.slice t.tag.A t.tag.n t.tag.c)/\
      w.cell? ⟨(ad.add (k * 6)).block,(ad.add (k * 6)).off+2,none⟩=some (.slice t.A t.n t.c)/\w.cell? ⟨(ad.add (k * 6)).block,(ad.add (k * 6)).off+3,none⟩=some (.slice t.K t.kn t.kc)/\
      w.cell? ⟨(ad.add (k * 6)).block,(ad.add (k * 6)).off+4,none⟩=some (.string t.text.s)/\w.cell? ⟨(ad.add (k * 6)).block,(ad.add (k * 6)).off+5,none⟩=some (.slice t.text.A t.text.n t.text.c)/\Hid (ts[k]?=some t):=by
  have ht:ts[k]?=some ts[k]:=List.getElem?_eq_getElem hk
  generalize ts[k]=t at ht
  have key:∀ j u,j < 6->(zj t)[j]?=some u->∃ ad,A=some ad/\ad.block < B/\w.cell? (ad.add (k * 6+j))=some u:=fun j u hj hu=>h _ _ ((zav ts k t ht j hj).trans hu)
  obtain⟨ad,e,hb,h0⟩:=key 0 _ (by omega) rfl
  subst e
  have key':∀ j u,j < 6->(zj t)[j]?=some u->w.cell? (ad.add (k * 6+j))=some u:=by
    intro j u hj hu
    obtain⟨ad',e,_,hc⟩:=key j u hj hu
    injection e with e
    subst e
    exact hc
  obtain⟨e1,e2,e3⟩:=zc8 ad (k * 6)
  obtain⟨e4,e5⟩:=zhG ad (k * 6)
  exact⟨ad,t,rfl,hb,h0,by rw[<-e1];exact key' 1 _ (by omega) rfl,by rw[<-e2];exact key' 2 _ (by omega) rfl,by rw[<-e3];exact key' 3 _ (by omega) rfl,by rw[<-e4];exact key' 4 _ (by omega) rfl,by rw[<-e5];exact key' 5 _ (by omega) rfl,ht⟩
def Kz(t:TT):Prop:=t.kids=[]->t.K=none/\t.kc=0
def zeZ(S:Nat->Prop)(qs:List PT)(w:World)(e:Ending)(w':World):Prop:=
  ∃ A c ts,e=.returned (.slice A ts.length c)/\w'.ownsRow w.heap.size 48 6 (.slice A ts.length c) ts.length (ze ts)/\AllS S w' ts/\(chL ts=qs/\(∀ x∈ts,Kz x)/\(ts=[]->A=none/\c=0))/\Below w.heap.size w w'
theorem zbL:(Tryz.prog.info? 48).map (fun i=>(i.zero,i.size,i.bytes))=some (some (.agg #[.string ⟨#[]⟩,.slice none 0 0,.slice none 0 0,.slice none 0 0,.string ⟨#[]⟩,.slice none 0 0]),6,128):=by kernel_rfl
mutual
def PT.lawN:PT->List Ch
  | ⟨tag,attrs,kids,_⟩=>(if tag=[] then [] else [tag])++ (attrs.map (fun a=>a.1)++ lawN kids)
def lawN:List PT->List Ch
  | []=>[]
  | t::ts=>t.lawN++ lawN ts
end
mutual
def PT.proN:PT->List Ch
  | ⟨tag,attrs,kids,_⟩=>if tag=[] then [] else tag::(attrs.map (fun a=>a.1)++ proN kids)
def proN:List PT->List Ch
  | []=>[]
  | t::ts=>t.proN++ proN ts
end
theorem PT.lawN_eq(t:PT):t.lawN=(if t.tag=[] then [] else [t.tag])++ (t.attrs.map (fun a=>a.1)++ mk.lawN t.kids):=by cases t;rw[PT.lawN]
theorem PT.proN_eq(t:PT):t.proN=if t.tag=[] then [] else t.tag::(t.attrs.map (fun a=>a.1)++ mk.proN t.kids):=by cases t;rw[PT.proN]
theorem zmW(a b:List PT):lawN (a++ b)=lawN a++ lawN b:=by
  induction a with
  | nil=>rw[lawN];rfl
  | cons t a ih=>rw[List.cons_append,lawN,lawN,ih,List.append_assoc]
theorem zmX(a b:List PT):proN (a++ b)=proN a++ proN b:=by
  induction a with
  | nil=>rw[proN];rfl
  | cons t a ih=>rw[List.cons_append,proN,proN,ih,List.append_assoc]
theorem zmY(t:PT):lawN [t]=t.lawN:=by rw[lawN,lawN,List.append_nil]
theorem zmZ(t:PT):proN [t]=t.proN:=by rw[proN,proN,List.append_nil]
theorem zkB{L:List PT}{k:Nat}{t:PT}(h:L[k]?=some t):lawN (L.take (k+1))=lawN (L.take k)++ t.lawN:=by rw[zw h,zmW,zmY]
theorem zkC{L:List PT}{k:Nat}{t:PT}(h:L[k]?=some t):proN (L.take (k+1))=proN (L.take k)++ t.proN:=by rw[zw h,zmX,zmZ]
theorem ziC:∀ L:List PT,(lawN L).length<=bkL L:=by
  apply PT.ind
  intro L IH
  have key:∀ l:List PT,(∀ t∈l,t∈L)->(lawN l).length<=bkL l:=by
    intro l
    induction l with
    | nil=>intro _;rw[lawN];exact Nat.zero_le _
    | cons t l ih=>
      intro hm
      have h1:=ih (fun x hx=>hm x (List.mem_cons_of_mem _ hx))
      have h2:=IH t (hm t (List.mem_cons_self ..))
      rw[lawN,List.length_append,PT.lawN_eq,List.length_append,List.length_append,List.length_map,bkL,PT.bk_eq]
      have h3:(if t.tag=[] then [] else [t.tag]:List Ch).length<=1:=by split<;>simp
      omega
  exact key L fun _ h=>h
theorem ziD:∀ L:List PT,(proN L).length<=bkL L:=by
  apply PT.ind
  intro L IH
  have key:∀ l:List PT,(∀ t∈l,t∈L)->(proN l).length<=bkL l:=by
    intro l
    induction l with
    | nil=>intro _;rw[proN];exact Nat.zero_le _
    | cons t l ih=>
      intro hm
      have h1:=ih (fun x hx=>hm x (List.mem_cons_of_mem _ hx))
      have h2:=IH t (hm t (List.mem_cons_self ..))
      rw[proN,List.length_append,PT.proN_eq,bkL,PT.bk_eq]
      split
      . simp only[List.length_nil];omega
      . rw[List.length_cons,List.length_append,List.length_map];omega
  exact key L fun _ h=>h
theorem zdy:∀ L:List PT,lawN (zp L)=proN (zp L):=by
  apply PT.ind
  intro L IH
  have key:∀ n,∀ l:List PT,l.length=n->(∀ t∈l,t∈L)->∀ x∈zp l,x.lawN=x.proN:=by
    intro n
    induction n with
    | zero=>
      intro l hl _ x hx
      have e:l=[]:=List.eq_nil_of_length_eq_zero hl
      subst e
      cases hx
    | succ n ih=>
      intro l hl hm
      rcases List.eq_nil_or_concat l with e | ⟨o,t,e⟩
      . subst e;cases hl
      . rw[List.concat_eq_append]at e
        subst e
        have hol:o.length=n:=by rw[List.length_append]at hl;simpa using hl
        have h1:=ih o hol (fun x hx=>hm x (List.mem_append_left _ hx))
        have htx:∀ c:Ch,(txT c).lawN=(txT c).proN:=fun c=>by
          have ht:(txT c).tag=[]:=rfl
          rw[PT.lawN_eq,PT.proN_eq,if_pos ht,if_pos ht]
          show []++ ([]++ lawN [])=[]
          rw[lawN]
          rfl
        intro x hx
        rw[zc7]at hx
        unfold addT at hx
        split at hx
        . rename_i ht
          rcases List.mem_append.1 hx with hx | hx
          . exact h1 x hx
          . rw[List.mem_singleton.1 hx,PT.lawN_eq,PT.proN_eq,if_neg ht,if_neg ht]
            show [t.tag]++ ((zag t.attrs).map _++ lawN (zp t.kids))=t.tag::((zag t.attrs).map _++ proN (zp t.kids))
            rw[IH t (hm t (by simp))]
            rfl
        . split at hx
          . exact h1 x hx
          . rcases List.eq_nil_or_concat (zp o)with e | ⟨p,y,e⟩
            . rw[e]at hx
              have hx2:x∈[txT t.text]:=hx
              rw[List.mem_singleton.1 hx2]
              exact htx _
            . rw[List.concat_eq_append]at e
              rw[e,List.getLast?_concat,List.dropLast_concat]at hx
              rw[e]at h1
              simp only at hx
              split at hx
              . rcases List.mem_append.1 hx with hx | hx
                . exact h1 x (List.mem_append_left _ hx)
                . rw[List.mem_singleton.1 hx];exact htx _
              . rcases List.mem_append.1 hx with hx | hx
                . exact h1 x hx
                . rw[List.mem_singleton.1 hx];exact htx _
  have hall:=key L.length L rfl (fun _ h=>h)
  generalize zp L=M at hall
  induction M with
  | nil=>rw[lawN,proN]
  | cons x M ih=>rw[lawN,proN,hall x (List.mem_cons_self ..),ih (fun y hy=>hall y (List.mem_cons_of_mem _ hy))]
def NmRow(S:Nat->Prop)(w:World)(base:Nat)(us:List LT)(v:Value):Prop:=
  ∃ A c,v=.slice A us.length c/\w.ownsRow base 24 2 (.slice A us.length c) us.length (zu us)/\∀ u∈us,u.inS S w
theorem NmRow.zero(S:Nat->Prop)(w:World)(base:Nat):NmRow S w base [] (.slice none 0 0):=⟨none,0,rfl,World.ownsRow_nil _ _ _ _,fun u h=>by cases h⟩
theorem NmRow.keep{S:Nat->Prop}{w w':World}{base:Nat}{us:List LT}{v:Value}(h:NmRow S w base us v)(hb:Below w.heap.size w w'):NmRow S w' base us v:=by
  obtain⟨A,c,e,h1,h2⟩:=h
  exact⟨A,c,e,zJ h1 hb,fun u hu=>(h2 u hu).keep (Stays.of hb)⟩
theorem zdz(us vs:List LT):zu (us++ vs)=zu us++ zu vs:=by unfold zu;rw[List.flatMap_append]
theorem zgC(us:List LT):∀ u∈zu us,u.oneCell'=true:=by
  intro u h
  unfold zu at h
  obtain⟨t,_,h⟩:=List.mem_flatMap.1 h
  simp only[List.mem_cons,List.not_mem_nil,or_false]at h
  rcases h with rfl | rfl<;>rfl
theorem NmRow.more{S:Nat->Prop}{w w2:World}{base n m:Nat}{A A':Option Addr}{c c':Nat}{us vs:List LT}(hS:∀ b,S b->b < base)(h:NmRow S w base us (.slice A n c))(hv:∀ u∈vs,u.inS S w)(hn:us.length=n)(hm:vs.length=m)(hg:w.grownBy w2 (Value.slice A n c).ownBlock)
    (ho:w2.ownsRow base 24 2 (.slice A' (n+m) c') (n+m) (zu us++ zu vs)):NmRow S w2 base (us++ vs) (.slice A' (n+m) c'):=by
  obtain⟨A0,c0,e,h1,h2⟩:=h
  injection e with e1 e2 e3
  subst e1 e3
  have hlen:(us++ vs).length=n+m:=by rw[List.length_append,hn,hm]
  have hst:Stays S w w2:=⟨hg.size,fun b hb hl=>hg.block b hl (fun e=>by
    rw[<-hn]at e
    have:=(h1.lt b e.symm).1
    have:=hS b hb
    omega)⟩
  refine⟨A',c',by rw[hlen],by rw[hlen,zdz];exact ho,fun u hu=>?_⟩
  rcases List.mem_append.1 hu with hu | hu
  . exact(h2 u hu).keep hst
  . exact(hv u hu).keep hst
def zec(b:UInt8):Bool:=decide (65<=b.toNat) && decide (b.toNat<=90)
def lowB(b:UInt8):UInt8:=if zec b then b+32 else b
theorem zkD(b:UInt8)(w:World) :
    Calls Tryz.prog 169 #[.int .u8 b.toNat] w fun e w'=>e=.returned (.bool (zec b))/\w=w':=by
  go_enter Tryz.func169,Tryz.ntmps169
  go_wp2
  all_goals
    go_ret
    refine⟨za3 ?_,rfl⟩
    unfold zec
    rw[Bool.eq_iff_iff]
    simp
    try omega
theorem zjn(w:World):Sem.run Tryz.prog (zeroValue 185) w=Result.ok (.agg (Array.replicate 256 (.bool false))) w:=by kernel_rfl
def ziE(l:List UInt8)(g:Nat)(w0:World)(i:Value)(wr:World):Prop:=
  ∃ k:Nat,k<=l.length/\i=.int .i64 (k:Int)/\(∃ cs,cs.size=256/\Whole wr g 185 cs/\∀ b:UInt8,cs[b.toNat]?=some (.bool ((l.take k).contains b)))/\Below g w0 wr
structure KP where
  kind:Int
  name:Ch
  attrs:List PA
  text:Ch
abbrev Nm:=List UInt8
def KP.nm(t:KP):Nm:=t.name.map (·.1)
def zjo(s:Nm):Bool:=s == [98,114] || (s == [104,114] || s == [105,109,103])
theorem drop_one{α:Type}{L:List α}{k:Nat}{t:α}(h:L[k]?=some t):L.drop k=t::L.drop (k+1):=by
  obtain⟨hk,h2⟩:=List.getElem?_eq_some_iff.1 h
  rw[List.drop_eq_getElem_cons hk,h2]
def nmT(t:PT):Nm:=t.tag.map (·.1)
def zam(top:PT)(loose:List PT):PT:=⟨top.tag,top.attrs,top.kids++ zp loose,[]⟩
def zbB(a t:PT):PT:=⟨a.tag,a.attrs,a.kids++ [t],[]⟩
structure BS where
  top:PT
  loose:List PT
  anc:List PT
def BS.names(s:BS):List Nm:=(s.anc.reverse++ [s.top]).tail.map nmT
def endB(top:PT)(loose:List PT)(a:PT)(anc:List PT):BS:=⟨zbB a (zam top loose),[],anc⟩
def zba(x:Nm):PT->List PT->List PT->BS
  | top,loose,[]=>⟨top,loose,[]⟩
  | top,loose,a::anc=>if nmT top=x then endB top loose a anc else zba x (zbB a (zam top loose)) [] anc
def zcT:PT->List PT->List PT->List PT
  | top,loose,[]=>top.kids++ zp loose
  | top,loose,a::anc=>zcT (zbB a (zam top loose)) [] anc
def zbo(s:BS)(t:KP):BS:=
  if t.kind=1 then
    (if t.name=[] then s
    else if zjo t.nm then ⟨s.top,s.loose++ [⟨t.name,t.attrs,[],[]⟩],s.anc⟩
    else ⟨⟨t.name,zag t.attrs,[],[]⟩,[],zam s.top s.loose::s.anc⟩)
  else if t.kind=2 then (if t.nm∈s.names then zba t.nm s.top s.loose s.anc else s)
  else if t.kind=3 then ⟨s.top,s.loose++ [txT t.text],s.anc⟩
  else s
def runB(s:BS)(l:List KP):BS:=l.foldl zbo s
def zaU:BS:=⟨⟨[],[],[],[]⟩,[],[]⟩
def finB(s:BS)(l:List KP):List PT:=zcT (runB s l).top (runB s l).loose (runB s l).anc
def zcU(l:List KP):List PT:=finB zaU l
theorem zc9(top top1:PT)(loose loose1:List PT)(a:PT)(anc:List PT)(h:nmT a=nmT top):(BS.mk top1 loose1 (a::anc)).names=(BS.mk top loose anc).names++ [nmT top1]:=by
  unfold BS.names
  show((a::anc).reverse++ [top1]).tail.map nmT=_
  rw[List.reverse_cons]
  cases hr:anc.reverse with
  | nil=>rfl
  | cons b bs=>
    show((b::bs++ [a]++ [top1]).tail).map nmT=((b::bs++ [top]).tail).map nmT++ _
    simp [h]
theorem zed{x:Nm}{top:PT}{loose:List PT}{a:PT}{anc:List PT}(h:nmT top=x):zba x top loose (a::anc)=endB top loose a anc:=if_pos h
theorem ze0{x:Nm}{top:PT}{loose:List PT}{a:PT}{anc:List PT}(h:¬ nmT top=x):zba x top loose (a::anc)=zba x (zbB a (zam top loose)) [] anc:=if_neg h
theorem zkE{s:BS}{t:KP}(h:t.kind=2):zbo s t=if t.nm∈s.names then zba t.nm s.top s.loose s.anc else s:=by
  unfold zbo
  rw[if_neg (by rw[h];decide),if_pos h]
theorem zhH{s:BS}{t:KP}(h1:t.kind=1->t.name=[])(h2:t.kind=2->t.nm ∉ s.names)(h3:t.kind≠3):zbo s t=s:=by
  unfold zbo
  by_cases k1:t.kind=1
  . rw[if_pos k1,if_pos (h1 k1)]
  . rw[if_neg k1]
    by_cases k2:t.kind=2
    . rw[if_pos k2,if_neg (h2 k2)]
    . rw[if_neg k2,if_neg h3]
def KP.bk(t:KP):Nat:=t.name.length+t.attrs.length+t.text.length+1
def kbL(l:List KP):Nat:=(l.map KP.bk).sum
theorem ziF{L:List KP}{i:Nat}{t:KP}(h:L[i]?=some t):kbL (L.drop i)=t.bk+kbL (L.drop (i+1)):=by
  unfold kbL
  rw[drop_one h,List.map_cons,List.sum_cons]
def RwK(N:Nat)(S:Nat->Prop)(Inv:Nat->World->Prop)(out:Nat->List (UInt8 × Int))(sz:Nat)(qs:List (Int × Int))(ta:Value)(w0:World)(k:Nat)(v at_:Value)(wr:World):Prop:=
  at_=.int .i64 (k:Int)/\k<=sz/\(comp ((out k).map (·.2))).length<=k/\RwSt N S qs ta w0 ((out k).map (·.1)) ((out k).map (·.2)) v wr/\Inv k wr
def zpu(N:Nat)(S:Nat->Prop)(Inv:Nat->World->Prop)(out:Nat->List (UInt8 × Int))(sz:Nat)(qs:List (Int × Int))(ta:Value)(w0:World)(v at_ i:Value)(wr:World):Prop:=
  ∃ j:Nat,j<=qs.length/\i=.int .i64 (j:Int)/\RwK N S Inv out sz qs ta w0 (zd (qs.take j)).length v at_ wr
def RwIn(N:Nat)(S:Nat->Prop)(Inv:Nat->World->Prop)(out:Nat->List (UInt8 × Int))(sz:Nat)(qs:List (Int × Int))(ta:Value)(w0:World)(r k:Nat)(l o:Int)(v at_ i:Value)(wr:World):Prop:=
  ∃ m:Nat,(m:Int)<=l/\i=.int .i64 (m:Int)/\RwK N S Inv out sz qs ta w0 (k+m) v at_ wr/\Whole wr r 53 #[.int .i64 l,.int .i64 o]/\v.ownBlock≠some r
def zpv(S:Nat->Prop)(I:World->Prop)(q:List (UInt8 × Int))(w:World)(e:Ending)(w':World):Prop:=
  ∃ v,e=.returned (.agg #[.string ⟨(q.map (·.1)).toArray⟩,v])/\w'.ownsRow w.heap.size 53 2 v (comp (q.map (·.2))).length (zc (comp (q.map (·.2))))/\Moved S w w'/\I w'
def Puts(F:Nat)(caps:Array Value)(S:Nat->Prop)(Inv:Nat->World->Prop)(out:Nat->List (UInt8 × Int))(L:List (UInt8 × Int))(N:Nat):Prop:=
  ∀ k b o w',L[k]?=some (b,o)->Inv k w'->N<=w'.heap.size->Calls Tryz.prog F (#[.int .i64 (k:Int),.int .i64 o]++ caps) w' fun e w''=>
    ∃ (part:ByteArray) (o':Int),e=.returned (.tuple #[.string part,.int .i64 o'])/\out (k+1)=out k++ part.data.toList.map (fun x=>(x,o'))/\Inv (k+1) w''/\Moved S w' w''
theorem zhI(F:Nat)(caps:Array Value)(S:Nat->Prop)(Inv:Nat->World->Prop)(out:Nat->List (UInt8 × Int))(s:ByteArray)(A:Option Addr)(n c:Nat)(rs:List (Int × Int))(w:World)(hl:Lies w w.heap.size A (zc rs))(hn:rs.length=n)(hs:s.size<=4294967296)(hn2:n<=4294967296)
    (hE:∀ args w',Sem.run Tryz.prog (callFunc F args) w'=.ok (.enter F args) w') (hS:∀ g,S g->g < w.heap.size) (hI:∀ k w' w'',Inv k w'->Below w.heap.size w' w''->Inv k w'')
    (hP:Puts F caps S Inv out (chars s.data.toList rs) w.heap.size) (h0:out 0=[]) (hI0:Inv 0 w) (hout:∀ k,k<=s.size->(out k).length<=70368744177664) :
    Calls Tryz.prog 43 #[.agg #[.string s,.slice A n c],.func (.func F) #[] caps] w (zpv S (Inv s.size) (out s.size) w):=by
  have HN:=Lib.hid hn
  have HE:=Lib.hid hE
  have HS:=Lib.hid hS
  have HI:=Lib.hid hI
  have HP:=Lib.hid hP
  have HB:=Lib.hid hout
  have H0:=Lib.hid h0
  have HI0:=Lib.hid hI0
  clear hn hE hS hI hP hout h0 hI0
  go_enter Tryz.func43,Tryz.ntmps43
  go_wp2_with fail
  refine(zbU s A n c rs _ ?_ HN.out (by omega) hn2).mono ?_
  . exact(((hl.alloc (Nat.le_refl _) _).alloc (by simp) _).alloc (by simp;omega) _).mono (by simp;omega)
  rintro e w3 ⟨v,rfl,hown,hb3⟩
  obtain⟨A3,c3,rfl,_,_,_⟩:=zh hown
  have fr1:=fun w'=>zc5 s A3 (zan s.size rs).length c3 w'
  go_wp2_with fail
  clear fr1
  simp only[World.size_alloc]at hown hb3
  have hz3:=hb3.size
  simp only[World.size_alloc]at hz3
  have hex:zd (zan s.size rs)=zF s.size rs:=zM _
  have hpos:∀ r∈zan s.size rs,1<=r.1:=zaP _
  have hql:(zan s.size rs).length<=s.size:=by have:=zD (zF s.size rs);rw[zC]at this;exact this
  generalize hqs:zan s.size rs=qs at *
  have hexl:(zd qs).length=s.size:=by rw[hex,zC]
  have y1:Whole w3 (w.heap.size+1) 24 #[.string ⟨#[]⟩,.slice none 0 0]:=by
    have h:=(Whole.made (w.alloc (.cells #[.string s,.slice A n c] 24)) 24 #[.string ⟨#[]⟩,.slice none 0 0]).alloc (.cells #[.pointer none,.slice none 0 0] 68)
    simp only[World.size_alloc]at h
    exact h.below hb3 (by omega)
  have hi0:Lib.IsBuilderF 68 5 (w.heap.size+2) (w.heap.size+2) (Lib.byteCells []) w3:=by
    have h:=Lib.IsBuilderF.of (Lib.fresh_isBuilder 68 5 ((w.alloc (.cells #[.string s,.slice A n c] 24)).alloc (.cells #[.string ⟨#[]⟩,.slice none 0 0] 24)))
    simp only[World.size_alloc]at h
    exact zaz h (hb3.mono (by simp)) (by decide)
  have hbw:Below w.heap.size w w3:=((((Below.refl _ _).alloc (Nat.le_refl _) _).alloc (by simp) _).alloc (by simp;omega) _).trans (hb3.mono (by omega))
  have hst0:RwSt w.heap.size S qs (.slice A3 qs.length c3) w3 [] [] (.slice none 0 0) w3:=
    ⟨World.ownsRow_nil _ _ _ _,hown,by intro g hg;simp [Value.ownBlock]at hg,hi0,Kept.refl _ _ _,by omega⟩
  have HST:=Lib.hid hst0
  have HEX:=Lib.hid hex
  have HEL:=Lib.hid hexl
  have HPOS:=Lib.hid hpos
  clear hst0 hown hi0 hb3 hqs hex hexl hpos
  generalize hqn:qs.length=z at *
  have HZ:=Lib.hid hqn
  clear hqn
  go_loopw [6,7,16] (zpu w.heap.size S Inv out s.size qs (.slice A3 z c3) w3) (fun _ _ i _=>z - (intOf i).toNat)
  case atStart=>exact⟨0,Nat.zero_le _,rfl,by simp [zd],Nat.zero_le _,by simp [zd,H0.out,comp],by simpa [zd,H0.out]using HST.out,HI.out _ _ _ HI0.out hbw⟩
  case round=>
    obtain⟨j,hj,rfl,rfl,hks,hcl,hst,hinv⟩:=hrel
    rw[HZ.out]at hj
    have HK1:=Lib.hid hcl
    have HK2:=Lib.hid hst
    have HK3:=Lib.hid hinv
    clear hcl hst hinv
    have hwz:w.heap.size+3<=wr.heap.size:=HK2.out.2.2.2.2.2
    by_cases hjl:j < z
    . have hta2:=HK2.out.2.1
      rw[HZ.out]at hta2
      obtain⟨ad',l,o,rfl,hbA,hd1,hd2,HR⟩:=(Lies.own hta2).run (k:=j) (by rw[HZ.out];exact hjl)
      have hl1:1<=l:=HPOS.out (l,o) (List.mem_of_getElem? HR.out)
      have HNX:=Lib.hid (zb6 HR.out)
      have hx2:=zcb qs (j+1)
      rw[HNX.out,HEL.out]at hx2
      have HAT:Hid (∀ m:Nat,(m:Int) < l->(zF s.size rs)[(zd (qs.take j)).length+m]?=some o):=fun m hm=>by rw[<-HEX.out];exact zgx HR.out (by omega)
      clear hta2
      generalize hd:(zd (qs.take j)).length=d at *
      have HD:=Lib.hid hd
      clear hd
      have hj0:(0:Int)<=(j:Int):=Int.natCast_nonneg _
      have hj1:(j:Int) < (z:Int):=by omega
      go_wp2_with fail
      have hrb:Whole (wr.alloc (.cells #[.int .i64 l,.int .i64 o] 53)) wr.heap.size 53 #[.int .i64 l,.int .i64 o]:=Whole.made _ _ _
      generalize hw4:wr.alloc (.cells #[.int .i64 l,.int .i64 o] 53)=w4 at *
      have hb4:Below wr.heap.size wr w4:=by rw[<-hw4];exact(Below.refl _ _).alloc (Nat.le_refl _) _
      have hst4:=HK2.out.below hb4
      have hinv4:=HI.out _ _ _ HK3.out (hb4.mono (by omega))
      have hv4:u6.ownBlock≠some wr.heap.size:=fun e=>by have:=(HK2.out.1.lt _ e).2;omega
      have HSI:Hid (RwIn w.heap.size S Inv out s.size qs (.slice (some ad') z c3) w3 wr.heap.size d l o u6 (.int .i64 (d:Int)) (.int .i64 0) w4):=
        ⟨0,by omega,rfl,⟨rfl,hks,HK1.out,hst4,hinv4⟩,hrb,hv4⟩
      obtain⟨g,hg⟩:∃ g,g=wr.heap.size:=⟨_,rfl⟩
      have hgz:w.heap.size+3<=g:=by omega
      have HSI2:Hid (RwIn w.heap.size S Inv out s.size qs (.slice (some ad') z c3) w3 g d l o u6 (.int .i64 (d:Int)) (.int .i64 0) w4):=by rw[hg];exact HSI
      rw[<-hg]
      clear HSI hg hw4 hrb hb4 hst4 hinv4 hv4 hd1 hd2 HK1 HK2 HK3
      go_loopw [6,7,22] (RwIn w.heap.size S Inv out s.size qs (.slice (some ad') z c3) w3 g d l o) (fun _ _ i _=>l.toNat - (intOf i).toNat)
      case atStart=>exact HSI2.out
      case round=>
        obtain⟨m,hml,rfl,⟨rfl,hks2,hcl,hst,hinv⟩,hrb,hvg⟩:=hrel
        have HK1:=Lib.hid hcl
        have HK2:=Lib.hid hst
        have HK3:=Lib.hid hinv
        have HRB:=Lib.hid hrb
        have HVG:=Lib.hid hvg
        clear hcl hst hinv hvg HSI2
        have hbz:w.heap.size+3<=wr.heap.size:=HK2.out.2.2.2.2.2
        have hc1:wr.cell? ⟨g,1,none⟩=some (.int .i64 o):=hrb.at_ 1
        clear hrb
        by_cases hm:(m:Int) < l
        . have hk:d+m < s.size:=by omega
          have HLK:Hid ((chars s.data.toList rs)[d+m]?=some (s[d+m]'hk,o)):=ziu hk (HAT.out m hm)
          have hB0:=HB.out (d+m) (by omega)
          have hB1:=HB.out (d+m+1) (by omega)
          have HM:=Lib.hid hm
          go_wp2_with fail
          rw[HE.out]
          refine(HP.out (d+m) _ o _ HLK.out HK3.out (by omega)).mono ?_
          rintro e w5 ⟨part,o',rfl,hout1,hinv5,hmv⟩
          have hps:(out (d+m+1)).length=(out (d+m)).length+part.size:=by
            rw[hout1,List.length_append,List.length_map,Array.length_toList];rfl
          have hst5:=HK2.out.moved hmv HS.out
          have hrb5:=hmv.whole HRB.out (fun hs=>by have:=HS.out _ hs;omega)
          have hz5:=hmv.size
          have H5:=Lib.hid hst5
          have R5:=Lib.hid hrb5
          have I5:=Lib.hid hinv5
          have O5:=Lib.hid hout1
          have P5:=Lib.hid hps
          have hpb:(out (d+m)).length+part.size<=70368744177664:=by omega
          clear hst5 hrb5 hinv5 hout1 hmv hps hc1
          go_wp2_with fail
          refine(zas (w.heap.size+2) (w.heap.size+2) (Lib.byteCells ((out (d+m)).map (·.1))) part _ H5.out.2.2.2.1 (by rw[Lib.byteCells_length,List.length_map];omega) (by omega)).mono ?_
          rintro e w6 ⟨rfl,hbu,hbl,hoth⟩
          have hst6:=H5.out.write hbu hbl hoth
          have hrb6:Whole w6 g 53 #[.int .i64 l,.int .i64 o]:=hoth _ _ R5.out (by intro e;injection e with e;omega) (by intro c fz e;injection e with _ e _;exact absurd e (by decide))
          have hinv6:=HI.out _ _ _ I5.out (hbl.mono (by omega))
          have hz6:=hbl.size
          have H6:=Lib.hid hst6
          have R6:=Lib.hid hrb6
          have I6:=Lib.hid hinv6
          have hc6:=HK1.out
          clear hst6 hrb6 hinv6 hbu hbl hoth
          go_wp2_with fail
          refine(zhv (w.heap.size+3) u6 ((out (d+m)).map (·.2)) (part.size:Int) o' _ H6.out.1 (by omega) (by omega) (by rw[List.length_map];omega) (by omega) (by omega)).mono ?_
          rintro e w7 ⟨v7,rfl,hown7,hg7,hat7⟩
          have hz7:=hg7.size
          rw[Int.toNat_natCast]at hown7
          have hst7:=H6.out.join hown7 hg7 hat7
          have hjl:(comp ((out (d+m)).map (·.2)++ List.replicate part.size o')).length<=(comp ((out (d+m)).map (·.2))).length+1:=by rw[zbx];exact zkr _ _ _
          have e1:(out (d+m+1)).map (·.1)=(out (d+m)).map (·.1)++ part.data.toList:=by rw[O5.out,List.map_append,List.map_map];congr 1;exact List.map_id' _
          have e2:(out (d+m+1)).map (·.2)=(out (d+m)).map (·.2)++ List.replicate part.size o':=by
            rw[O5.out,List.map_append,List.map_map]
            congr 1
            have:part.data.toList.length=part.size:=by rw[Array.length_toList];rfl
            rw[<-this]
            exact List.map_const'
          rw[<-e1,<-e2]at hst7
          rw[<-e2]at hjl
          have hrb7:Whole w7 g 53 #[.int .i64 l,.int .i64 o]:=R6.out.grown hg7 (fun e=>HVG.out e.symm)
          have hinv7:=HI.out _ _ _ I6.out ((Below.refl _ _).grown hg7 (by omega) (fun k hk=>by have:=(H6.out.1.lt k hk).1;omega))
          have hvg7:v7.ownBlock≠some g:=by
            rcases hat7 with e | ⟨k,hk,e⟩
            . rw[e];exact HVG.out
            . rw[e];intro e2;injection e2 with e2;have:=R6.out.lt;omega
          have HREL:Hid (RwIn w.heap.size S Inv out s.size qs (.slice (some ad') z c3) w3 g d l o v7 (.int .i64 ((d+m+1:Nat):Int)) (.int .i64 ((m+1:Nat):Int)) w7):=
            ⟨m+1,by have:=HM.out;omega,rfl,⟨rfl,by omega,by have:d+(m+1)=d+m+1:=rfl;rw[this];omega,hst7,hinv7⟩,hrb7,hvg7⟩
          clear hst7 hrb7 hinv7 hvg7 hown7 hg7 hat7 hjl e1 e2
          go_wp2_with fail
          go_roundw
          case rel=>
            have h:=HREL.out
            first | exact h | (simpa using h)
          case measure=>simp [intOf];omega
        . obtain rfl:l=(m:Int):=by omega
          have HREL:Hid (zpu w.heap.size S Inv out s.size qs (.slice (some ad') z c3) w3 u6 (.int .i64 ((d+m:Nat):Int)) (.int .i64 ((j+1:Nat):Int)) wr):=by
            refine⟨j+1,by rw[HZ.out];omega,rfl,?_⟩
            rw[HNX.out,Int.toNat_natCast]
            exact⟨rfl,hks2,HK1.out,HK2.out,HK3.out⟩
          go_wp2_with fail
          go_roundw
          case rel=>exact HREL.out
          case measure=>simp [intOf];omega
    . obtain rfl:j=z:=by omega
      have hfull:(zd (qs.take j)).length=s.size:=by rw[List.take_of_length_le (by rw[HZ.out];exact Nat.le_refl _),HEL.out]
      rw[hfull]at HK1 HK2 HK3
      have HFULL:=Lib.hid hfull
      have hB0:=HB.out s.size (Nat.le_refl _)
      clear hfull
      go_wp2_with fail
      refine(Tryz.Builder_String_any_k (w.heap.size+2) (w.heap.size+2) ((out s.size).map (·.1)) wr HK2.out.2.2.2.1 (by omega)).mono ?_
      rintro e w5 ⟨rfl,_,hbl5,hoth5⟩
      have ho5:=zaA HK2.out.1 hoth5 (by omega)
      have hinv5:=HI.out _ _ _ HK3.out (hbl5.mono (by omega))
      have hkp:=HK2.out.2.2.2.2.1.below hbl5
      have hW:=(y1.same (hkp.block _ (by omega) (fun hs=>by have:=HS.out _ hs;omega)))
      have f0:=hW.free 0
      have f1:=hW.free 1
      have d0:w5.cell? ⟨w.heap.size+1,0,none⟩=some (.string ⟨#[]⟩):=hW.at_ 0
      have d1:w5.cell? ⟨w.heap.size+1,1,none⟩=some (.slice none 0 0):=hW.at_ 1
      obtain⟨A5,c5,rfl,_,_,_⟩:=zh ho5
      have HO5:=Lib.hid ho5
      have HI5:=Lib.hid hinv5
      have HKP:=Lib.hid hkp
      clear ho5 hinv5 hkp
      generalize hq1:(out s.size).map (·.1)=st at *
      generalize hq2:comp ((out s.size).map (·.2))=q at *
      have HQ1:=Lib.hid hq1
      have HQ2:=Lib.hid hq2
      clear hq1 hq2
      go_wp2
      refine bodyPost_ret (v:=.agg #[.string ⟨st.toArray⟩,.slice A5 q.length c5]) ?_ rfl ?_
      . simp [results,Tryz.results43,go_sem,d0,d1]
      . refine⟨.slice A5 q.length c5,by rw[HQ1.out],?_,?_,?_⟩
        . rw[HQ2.out]
          refine zI (base:=w.heap.size+3) (zS (zS HO5.out _ (fun h=>?_) _) _ (fun h=>?_) _) (by omega)
          . exact absurd (HO5.out.lt _ h).1 (by simp)
          . exact absurd (HO5.out.lt _ h).1 (by simp)
        . have hk:=HKP.out
          have hkb:Below (w.heap.size+1) w5 ((w5.setCell ⟨w.heap.size+1,0,none⟩ (.string ⟨st.toArray⟩)).setCell ⟨w.heap.size+1,1,none⟩ (.slice A5 q.length c5)):=((Below.refl _ _).setCell (p:=⟨w.heap.size+1,0,none⟩) (Nat.le_refl _) _).setCell (p:=⟨w.heap.size+1,1,none⟩) (Nat.le_refl _) _
          exact⟨hkb.os.trans (hk.os.trans hbw.os),hkb.tape.trans (hk.tape.trans hbw.tape),hkb.output.trans (hk.output.trans hbw.output),Nat.le_trans (Nat.le_trans hbw.size hk.size) hkb.size,fun g hg hs=>(hkb.block g (by omega)).trans ((hk.block g (by omega) hs).trans (hbw.block g hg))⟩
        . exact HI.out _ _ _ HI5.out (((Below.refl _ _).setCell (p:=⟨w.heap.size+1,0,none⟩) (Nat.le_succ _) _).setCell (p:=⟨w.heap.size+1,1,none⟩) (Nat.le_succ _) _)
theorem zm0(s:ByteArray)(k:Nat)(hk:k < s.size):(s.extract k (k+1)).data.toList=[s[k]'hk]:=by
  have hsl:s.data.toList.length=s.size:=by rw[Array.length_toList];rfl
  rw[ByteArray.data_extract,Array.toList_extract]
  have hk':k < s.data.toList.length:=by rw[hsl];exact hk
  rw[List.extract_eq_take_drop,List.drop_eq_getElem_cons hk',show k+1 - k=1 by omega]
  rfl
def crlf(l:List UInt8)(k:Nat):Bool:=(l.drop k).take 2 == [13,10]
def lfB(b:UInt8):UInt8:=if b=13 then 10 else b
theorem zm1(s:ByteArray)(i:Nat):(s.extract i s.size).data.toList=s.data.toList.drop i:=by
  rw[ByteArray.data_extract,Array.toList_extract,List.extract_eq_take_drop]
  refine List.take_of_length_le ?_
  rw[List.length_drop,Array.length_toList]
  exact Nat.le_refl _
def zkF(s:ByteArray)(k:Nat)(b:UInt8)(o a:Int)(bA:Nat)(w:World)(e:Ending)(w':World):Prop:=
  (crlf s.data.toList k=true/\e=.returned (.tuple #[.string ⟨#[]⟩,.int .i64 o])/\Whole w' bA 3 #[.int .i64 o]/\Moved (fun g=>g=bA) w w')\/
  (crlf s.data.toList k=false/\(∃ part:ByteArray,part.data.toList=[lfB b]/\e=.returned (.tuple #[.string part,.int .i64 (max a o)]))/\Whole w' bA 3 #[.int .i64 0]/\Moved (fun g=>g=bA) w w')
theorem zjp(bS bA:Nat)(s:ByteArray)(v:Value)(k:Nat)(o a:Int)(hk:k < s.size)(hs:s.size<=4294967296)(w:World)(y0:Whole w bS 24 #[.string s,v])(y1:Whole w bA 3 #[.int .i64 a])(hne:bS≠bA) :
    Calls Tryz.prog 44 #[.int .i64 (k:Int),.int .i64 o,.pointer (some ⟨bS,0,none⟩),.pointer (some ⟨bA,0,none⟩)] w (zkF s k (s[k]'hk) o a bA w):=by
  have hk0:(0:Int)<=(k:Int):=Int.natCast_nonneg _
  have hk1:(k:Int) < (s.size:Int):=by omega
  have hk3:(k:Int)<=(s.size:Int):=by omega
  have hk2:(k:Int)+1<=(s.size:Int):=by omega
  have c0:w.cell? ⟨bS,0,none⟩=some (.string s):=y0.at_ 0
  have c1:w.cell? ⟨bA,0,none⟩=some (.int .i64 a):=y1.at_ 0
  have f1:=y1.free 0
  have HTL:Hid ((s.extract k s.size).data.toList=s.data.toList.drop k):=zm1 s k
  go_enter Tryz.func44,Tryz.ntmps44
  go_wp2_with fail
  refine(zaR (s.extract k s.size) ⟨#[13,10]⟩ _).mono ?_
  rw[HTL.out]
  rintro e w' ⟨rfl,rfl⟩
  have HC:Hid (crlf s.data.toList k=(List.take (ByteArray.mk #[13,10]).size (s.data.toList.drop k) == (ByteArray.mk #[13,10]).data.toList)):=rfl
  rw[<-HC.out]
  have hmv:∀ u,Moved (fun g=>g=bA) w (w.setCell ⟨bA,0,none⟩ u):=fun u=>Moved.setCell (S:=fun g=>g=bA) (Moved.refl _ _) (p:=⟨bA,0,none⟩) rfl u
  have HMV:=Lib.hid hmv
  have HY1:=Lib.hid y1
  clear hmv
  cases hc:crlf s.data.toList k with
  | true=>
    have HCC:=Lib.hid hc
    clear hc
    go_wp2_with fail
    go_ret2
    exact .inl ⟨HCC.out,rfl,HY1.out.put 0 _,HMV.out _⟩
  | false=>
    have HCC:=Lib.hid hc
    clear hc
    by_cases hb:s[k]'hk=13
    . have hb1:(((s[k]'hk).toNat:Int) == 13)=true:=by rw[hb];rfl
      have HL:Hid (lfB (s[k]'hk)=10):=by show _=_;unfold lfB;rw[if_pos hb]
      clear hb
      go_wp2_with fail
      all_goals
        go_ret2
        exact .inr ⟨HCC.out,⟨⟨#[10]⟩,by rw[HL.out],rfl⟩,HY1.out.put 0 _,HMV.out _⟩
    . have hb1:(((s[k]'hk).toNat:Int) == 13)=false:=by
        rw[beq_eq_false_iff_ne]
        intro e
        apply hb
        apply UInt8.toNat_inj.1
        show _=13
        omega
      have HL:Hid (lfB (s[k]'hk)=s[k]'hk):=by show _=_;unfold lfB;rw[if_neg hb]
      have HO:=Lib.hid (zm0 s k hk)
      clear hb
      go_wp2_with fail
      all_goals
        go_ret2
        exact .inr ⟨HCC.out,⟨_,by rw[HL.out];exact HO.out,rfl⟩,HY1.out.put 0 _,HMV.out _⟩
def zO:List (UInt8 × Int)->List (UInt8 × Int)
  | []=>[]
  | [(b,o)]=>[(lfB b,o)]
  | (b,o)::(c,p)::t=>if b=13/\c=10 then (10,max o p)::zO t else (lfB b,o)::zO ((c,p)::t)
theorem zfH(L:List (UInt8 × Int))(k:Nat):crlf (L.map (·.1)) k=true↔∃ o p t,L.drop k=(13,o)::(10,p)::t:=by
  unfold crlf
  rw[<-List.map_drop,beq_iff_eq]
  generalize L.drop k=M
  constructor
  . intro h
    match M,h with
    | [],h=>simp at h
    | [x],h=>simp at h
    | (b,o)::(c,p)::t,h=>
      simp at h
      obtain⟨rfl,rfl⟩:=h
      exact⟨o,p,t,rfl⟩
  . rintro⟨o,p,t,rfl⟩
    simp
theorem zhJ(o p:Int)(t:List (UInt8 × Int)):zO ((13,o)::(10,p)::t)=(10,max o p)::zO t:=by
  rw[zO,if_pos ⟨rfl,rfl⟩]
theorem zdA{b:UInt8}{o:Int}{t:List (UInt8 × Int)}(h:¬ ∃ p t',b=13/\t=(10,p)::t'):zO ((b,o)::t)=(lfB b,o)::zO t:=by
  match t,h with
  | [],_=>rw[zO,zO]
  | (c,p)::t,h=>rw[zO,if_neg (fun e=>h ⟨p,t,e.1,by rw[e.2]⟩)]
def pend(L:List (UInt8 × Int)):Nat->Option Int
  | 0=>none
  | k+1=>if crlf (L.map (·.1)) k then some (L.getD k (0,0)).2 else none
def lo(L:List (UInt8 × Int)):Nat->List (UInt8 × Int)
  | 0=>[]
  | k+1=>lo L k++ if crlf (L.map (·.1)) k then [] else [(lfB (L.getD k (0,0)).1,max ((pend L k).getD 0) (L.getD k (0,0)).2)]
def zfI(L:List (UInt8 × Int))(k:Nat):List (UInt8 × Int):=
  match pend L k with
  | none=>L.drop k
  | some a=>(13,a)::L.drop k
theorem zee{L:List (UInt8 × Int)}{k:Nat}{a:Int}(h:pend L k=some a):∃ p t,L.drop k=(10,p)::t:=by
  cases k with
  | zero=>cases h
  | succ k=>
    rw[pend]at h
    split at h
    . rename_i hc
      obtain⟨o,p,t,e⟩:=(zfH L k).1 hc
      refine⟨p,t,?_⟩
      rw[<-List.drop_drop,e]
      rfl
    . cases h
theorem zot(L:List (UInt8 × Int))(hin:∀ o∈L.map (·.2),0<=o)(k:Nat)(hk:k<=L.length):zO L=lo L k++ zO (zfI L k):=by
  induction k with
  | zero=>rfl
  | succ k ih=>
    rw[ih (by omega)]
    have hk':k < L.length:=by omega
    have hd:L.drop k=L[k]::L.drop (k+1):=List.drop_eq_getElem_cons hk'
    have hg:L.getD k (0,0)=L[k]:=by simp [List.getD,List.getElem?_eq_getElem hk']
    have ho:0<=L[k].2:=hin _ (List.mem_map.2 ⟨L[k],List.getElem_mem hk',rfl⟩)
    cases hc:crlf (L.map (·.1)) k with
    | true=>
      obtain⟨o,p,t,e⟩:=(zfH L k).1 hc
      have e1:L[k]=(13,o):=by rw[hd]at e;injection e
      have hp:pend L k=none:=by
        cases hp:pend L k with
        | none=>rfl
        | some a=>
          obtain⟨p',t',e'⟩:=zee hp
          rw[hd,e1]at e'
          injection e' with e' _
          injection e' with e' _
          exact absurd e' (by decide)
      have hl:lo L (k+1)=lo L k:=by rw[lo,hc];simp
      have hr:zfI L (k+1)=zfI L k:=by
        unfold zfI
        rw[hp,pend,hc,if_pos rfl,hg]
        show(13,L[k].2)::L.drop (k+1)=L.drop k
        rw[hd,e1]
      rw[hl,hr]
    | false=>
      have hn:¬ ∃ o p t,L.drop k=(13,o)::(10,p)::t:=by rw[<-zfH,hc];simp
      have hl:lo L (k+1)=lo L k++ [(lfB L[k].1,max ((pend L k).getD 0) L[k].2)]:=by rw[lo,hc,hg];simp
      have hr:zfI L (k+1)=L.drop (k+1):=by unfold zfI;rw[pend,hc];simp
      rw[hl,hr,List.append_assoc]
      congr 1
      unfold zfI
      cases hp:pend L k with
      | none=>
        show zO (L.drop k)=[(lfB L[k].1,max 0 L[k].2)]++ zO (L.drop (k+1))
        rw[hd,show max 0 L[k].2=L[k].2 by omega]
        refine zdA ?_
        rintro⟨p,t',e1,e2⟩
        exact hn ⟨L[k].2,p,t',by rw[hd,e2];congr 1;exact Prod.ext e1 rfl⟩
      | some a=>
        obtain⟨p,t',e'⟩:=zee hp
        rw[hd]at e'
        injection e' with e1 e2
        show zO ((13,a)::L.drop k)=[(lfB L[k].1,max a L[k].2)]++ zO (L.drop (k+1))
        rw[hd,e1,zhJ]
        rfl
theorem zpw(L:List (UInt8 × Int))(hin:∀ o∈L.map (·.2),0<=o):lo L L.length=zO L:=by
  rw[zot L hin L.length (Nat.le_refl _)]
  have:zfI L L.length=[]:=by
    unfold zfI
    cases hp:pend L L.length with
    | none=>simp
    | some a=>
      obtain⟨p,t',e'⟩:=zee hp
      rw[List.drop_of_length_le (Nat.le_refl _)]at e'
      cases e'
  rw[this,zO,List.append_nil]
theorem zkG(L:List (UInt8 × Int))(k:Nat):(lo L k).length<=k:=by
  induction k with
  | zero=>exact Nat.le_refl _
  | succ k ih=>
    rw[lo,List.length_append]
    have:(if crlf (L.map (·.1)) k then [] else [(lfB (L.getD k (0,0)).1,max ((pend L k).getD 0) (L.getD k (0,0)).2)]).length<=1:=by split<;>simp
    omega
theorem zkH(s:ByteArray)(A:Option Addr)(n c:Nat)(rs:List (Int × Int))(w:World)(hl:Lies w w.heap.size A (zc rs))(hn:rs.length=n)(hs:s.size<=4294967296)(hn2:n<=4294967296) :
    Calls Tryz.prog 13 #[.agg #[.string s,.slice A n c]] w (zdJ ⟨((zO (chars s.data.toList rs)).map (·.1)).toArray⟩ (comp ((zO (chars s.data.toList rs)).map (·.2))) w):=by
  have HN:=Lib.hid hn
  clear hn
  have hsl:s.data.toList.length=s.size:=by rw[Array.length_toList];rfl
  have HSL:=Lib.hid hsl
  clear hsl
  go_enter Tryz.func13,Tryz.ntmps13
  go_wp2_with fail
  generalize hwE:((w.alloc (.cells #[.string s,.slice A n c] 24)).alloc (.cells #[.string ⟨#[]⟩,.slice none 0 0] 24)).alloc (.cells #[.int .i64 0] 3)=wE
  have y0:Whole wE w.heap.size 24 #[.string s,.slice A n c]:=by rw[<-hwE];exact((Whole.made w _ _).alloc _).alloc _
  have y3:Whole wE (w.heap.size+1) 24 #[.string ⟨#[]⟩,.slice none 0 0]:=by
    rw[<-hwE]
    have h:=(Whole.made (w.alloc (.cells #[.string s,.slice A n c] 24)) 24 #[.string ⟨#[]⟩,.slice none 0 0]).alloc (.cells #[.int .i64 0] 3)
    simp only[World.size_alloc]at h
    exact h
  have y1:Whole wE (w.heap.size+1+1) 3 #[.int .i64 0]:=by
    rw[<-hwE]
    have h:=Whole.made ((w.alloc (.cells #[.string s,.slice A n c] 24)).alloc (.cells #[.string ⟨#[]⟩,.slice none 0 0] 24)) 3 #[.int .i64 0]
    simp only[World.size_alloc]at h
    exact h
  have hzE:wE.heap.size=w.heap.size+3:=by rw[<-hwE];simp
  have hbE:Below w.heap.size w wE:=by rw[<-hwE];exact(((Below.refl _ _).alloc (Nat.le_refl _) _).alloc (by simp) _).alloc (by simp;omega) _
  have hlE:Lies wE wE.heap.size A (zc rs):=hl.next hbE (Nat.le_refl _)
  clear hwE
  have HLN:Hid ((chars s.data.toList rs).length=s.size):=by show _=_;rw[zbq,HSL.out]
  have HLF:Hid ((chars s.data.toList rs).map (·.1)=s.data.toList):=zbG _ _
  have HLA:Hid (lo (chars s.data.toList rs) s.size=zO (chars s.data.toList rs)):=by
    have h:=zpw (chars s.data.toList rs) (fun o ho=>by rw[za5]at ho;exact(zco _ _ o ho).1)
    rw[HLN.out]at h
    exact h
  refine(zhI 44 #[.pointer (some ⟨w.heap.size,0,none⟩),.pointer (some ⟨w.heap.size+1+1,0,none⟩)] (fun g=>g=w.heap.size+1+1)
    (fun k w'=>Whole w' w.heap.size 24 #[.string s,.slice A n c]/\Whole w' (w.heap.size+1+1) 3 #[.int .i64 ((pend (chars s.data.toList rs) k).getD 0)]/\Kept (fun g=>g=w.heap.size+1+1) wE.heap.size wE w')
    (lo (chars s.data.toList rs)) s A n c rs wE hlE HN.out hs hn2 (fun _ _=>rfl) (fun g h=>by omega)
    (fun k w' w'' h1 h2=>⟨h1.1.below h2 (by omega),h1.2.1.below h2 (by omega),h1.2.2.below h2⟩) ?_ rfl ⟨y0,y1,Kept.refl _ _ _⟩ ?_).mono ?_
  . rintro k b o w' hL ⟨hI1,hI2,hI3⟩ hN'
    have hk:k < s.size:=by rw[<-HLN.out];exact(List.getElem?_eq_some_iff.1 hL).1
    have hb:s[k]'hk=b:=by
      have h2:((chars s.data.toList rs).map (·.1))[k]?=some b:=by rw[List.getElem?_map,hL];rfl
      rw[HLF.out,List.getElem?_eq_getElem (by rw[HSL.out];exact hk)]at h2
      injection h2
    have hg:(chars s.data.toList rs).getD k (0,0)=(b,o):=by simp [List.getD,hL]
    refine(zjp w.heap.size (w.heap.size+1+1) s (.slice A n c) k o ((pend (chars s.data.toList rs) k).getD 0) hk hs w' hI1 hI2 (by omega)).mono ?_
    rintro e w'' (⟨hc,rfl,hW,hm⟩ | ⟨hc,⟨part,hp,rfl⟩,hW,hm⟩)
    . have hz:=hm.size
      rw[<-HLF.out]at hc
      refine⟨⟨#[]⟩,o,rfl,?_,⟨hm.whole hI1 (by omega),?_,hI3.moved hm hN'⟩,hm⟩
      . rw[lo,hc];simp
      . rw[pend,hc,if_pos rfl,hg];exact hW
    . have hz:=hm.size
      rw[<-HLF.out]at hc
      refine⟨part,_,rfl,?_,⟨hm.whole hI1 (by omega),?_,hI3.moved hm hN'⟩,hm⟩
      . rw[lo,hc,hp,hg,hb];simp
      . rw[pend,hc];exact hW
  . intro k hk
    have:=zkG (chars s.data.toList rs) k
    omega
  rw[HLA.out]
  generalize hT:zO (chars s.data.toList rs)=T at *
  generalize hq:comp (T.map (·.2))=q at *
  generalize hst:T.map (·.1)=st at *
  have HT:=Lib.hid hT
  have HQ:=Lib.hid hq
  have HS:=Lib.hid hst
  clear hT hq hst
  rintro e w2 ⟨v,rfl,hown,hmv,_⟩
  rw[HQ.out]at hown
  rw[HS.out]
  obtain⟨A2,c2,rfl,_,_,_⟩:=zh hown
  have hW:=hmv.whole y3 (by omega)
  have f0:=hW.free 0
  have f1:=hW.free 1
  have d0:w2.cell? ⟨w.heap.size+1,0,none⟩=some (.string ⟨#[]⟩):=hW.at_ 0
  have d1:w2.cell? ⟨w.heap.size+1,1,none⟩=some (.slice none 0 0):=hW.at_ 1
  have hb2:Below w.heap.size w w2:=hbE.trans (hmv.below (by omega) (fun g h1 h2=>by omega))
  have HO:=Lib.hid hown
  clear hown hmv
  go_wp2
  refine bodyPost_ret (v:=.agg #[.string ⟨st.toArray⟩,.slice A2 q.length c2]) ?_ rfl ?_
  . simp [results,Tryz.results13,go_sem,d0,d1]
  . rw[HT.out,HQ.out,HS.out]
    exact zaE (g:=w.heap.size+1) (by omega) (zI HO.out (by omega)) hb2
def zpx:Value->Nat
  | .slice _ n _=>n
  | _=>0
def zY(ts:List LT):List (UInt8 × Int):=ts.flatMap LT.ch
theorem zkI(ts:List LT):(zY ts).map (·.1)=zdK ts:=by
  induction ts with
  | nil=>rfl
  | cons t ts ih=>simp only[zY,zdK,List.flatMap_cons,List.map_append,LT.ch_fst]at ih ⊢;rw[ih]
theorem zgD(ts:List LT):(zY ts).map (·.2)=zbX ts:=by
  induction ts with
  | nil=>rfl
  | cons t ts ih=>simp only[zY,zbX,List.flatMap_cons,List.map_append,LT.ch_snd]at ih ⊢;rw[ih]
theorem zgE(ts:List LT):(zY ts).length=(zbX ts).length:=by rw[<-zgD,List.length_map]
theorem ziG(ts:List LT)(L:Option Addr)(m c:Nat)(W:World)(hl:Lies W W.heap.size L (zu ts))(hm:ts.length=m)(hm2:m<=4294967296)(hok:∀ t∈ts,t.ok W W.heap.size)(hz:(zY ts).length<=4294967296) :
    Calls Tryz.prog 54 #[.slice L m c] W (zdJ (zi (zY ts)) (comp ((zY ts).map (·.2))) W):=by
  have h:=zol L m c ts W hl hm hm2 hok (by rw[<-zgE];exact hz)
  unfold zi
  rw[zkI,zgD]
  exact h
def txs(p:Ch):List PT:=if p=[] then [] else [txT p]
def sibF:List PT->Ch->List PT
  | [],p=>txs p
  | t::ts,p=>if t.tag=[] then sibF ts (p++ t.text) else txs p++ ⟨t.tag,t.attrs,t.kids,[]⟩ :: sibF ts []
def sibs(L:List PT):List PT:=sibF L []
def mgT(t:PT):PT:=⟨t.tag,zag t.attrs,zp t.kids,t.text⟩
theorem zkJ:txs []=[]:=rfl
theorem zcs{p:Ch}(h:p≠[]):txs p=[txT p]:=if_neg h
theorem zn0(p:Ch):mgT (txT p)=txT p:=rfl
theorem zn1(p:Ch):(txs p).map mgT=txs p:=by
  unfold txs
  split
  . rfl
  . rw[List.map_singleton,zn0]
theorem zou(L:List PT):∀ (out:List PT) (p:Ch),(out=[]\/∃ xs x,out=xs++ [x]/\x.tag≠[])->mgO (out++ txs p) L=out++ (sibF L p).map mgT:=by
  induction L with
  | nil=>intro out p _;rw[mgO,sibF,zn1]
  | cons t ts ih=>
    intro out p hout
    rw[mgO,sibF]
    by_cases ht:t.tag=[]
    . rw[if_pos ht]
      have e:addT (out++ txs p) t t.mg=out++ txs (p++ t.text):=by
        by_cases hx:t.text=[]
        . rw[zky ht hx,hx,List.append_nil]
        . by_cases hp:p=[]
          . subst hp
            rw[zkJ,List.append_nil,List.nil_append,zcs hx]
            rcases hout with rfl | ⟨xs,x,rfl,hxt⟩
            . exact ziw ht hx _
            . exact zix ht hx xs x hxt _
          . rw[zcs hp,zcs (by simp [hp])]
            exact zkz ht hx out (txT p) rfl _
      rw[e,ih _ _ hout]
    . rw[if_neg ht,zhF ht,PT.mg_eq]
      have h1:=ih (out++ txs p++ [⟨t.tag,zag t.attrs,zp t.kids,[]⟩]) [] (.inr ⟨_,_,rfl,ht⟩)
      rw[zkJ,List.append_nil]at h1
      rw[h1,List.map_append,zn1,List.map_cons]
      simp [mgT]
theorem zda(L:List PT):zp L=(sibs L).map mgT:=by
  have h:=zou L [] [] (.inl rfl)
  exact h
theorem zdN{L:List PT}{k:Nat}{t:PT}(h:L[k]?=some t)(p:Ch):sibF (L.drop k) p=if t.tag=[] then sibF (L.drop (k+1)) (p++ t.text) else txs p++ ⟨t.tag,t.attrs,t.kids,[]⟩ :: sibF (L.drop (k+1)) []:=by
  obtain⟨hk,e⟩:=List.getElem?_eq_some_iff.1 h
  rw[List.drop_eq_getElem_cons hk,e,sibF]
theorem zov{L:List PT}{k:Nat}(h:L.length<=k)(p:Ch):sibF (L.drop k) p=txs p:=by
  rw[List.drop_of_length_le h,sibF]
def okS(x:PT):Prop:=(x.tag=[]->x=txT x.text/\x.text≠[])/\(x.tag≠[]->x.text=[])
theorem ziH{p:Ch}{x:PT}(h:x∈txs p):okS x/\x.kids=[]:=by
  unfold txs at h
  split at h
  . cases h
  . rename_i hp
    obtain rfl:=List.mem_singleton.1 h
    exact⟨⟨fun _=>⟨rfl,hp⟩,fun h=>absurd rfl h⟩,rfl⟩
theorem zow(L:List PT):∀ (p:Ch) (x:PT),x∈sibF L p->okS x/\(x.kids=[]\/∃ t∈L,x.kids=t.kids):=by
  induction L with
  | nil=>intro p x h;rw[sibF]at h;exact⟨(ziH h).1,.inl (ziH h).2⟩
  | cons t ts ih=>
    intro p x h
    rw[sibF]at h
    split at h
    . obtain⟨h1,h2⟩:=ih _ _ h
      exact⟨h1,h2.imp id fun⟨y,hy,e⟩=>⟨y,List.mem_cons_of_mem _ hy,e⟩⟩
    . rename_i ht
      rcases List.mem_append.1 h with h | h
      . exact⟨(ziH h).1,.inl (ziH h).2⟩
      . rcases List.mem_cons.1 h with rfl | h
        . exact⟨⟨fun e=>absurd e ht,fun _=>rfl⟩,.inr ⟨t,by simp,rfl⟩⟩
        . obtain⟨h1,h2⟩:=ih _ _ h
          exact⟨h1,h2.imp id fun⟨y,hy,e⟩=>⟨y,List.mem_cons_of_mem _ hy,e⟩⟩
theorem zkK{L:List PT}{x:PT}(h:x∈sibs L):okS x/\(x.kids=[]\/∃ t∈L,x.kids=t.kids):=zow L [] x h
abbrev Found:=Ch × Ch × Nat
mutual
def PT.flat:PT->Nat->List Found
  | ⟨tag,_,kids,text⟩,k=>(tag,text,k)::za7 kids (k+1)
def za7:List PT->Nat->List Found
  | [],_=>[]
  | t::ts,k=>t.flat k++ za7 ts k
end
theorem PT.flat_eq(t:PT)(k:Nat):t.flat k=(t.tag,t.text,k)::za7 t.kids (k+1):=by cases t;rw[PT.flat]
theorem zox(t:PT)(k:Nat):(mgT t).flat k=(t.tag,t.text,k)::za7 (zp t.kids) (k+1):=by rw[PT.flat_eq];rfl
theorem zoy:∀ (M:List PT) (k:Nat),(za7 M k).length=wtL M:=by
  apply PT.ind
  intro M IH
  induction M with
  | nil=>intro k;rw[za7,wtL];rfl
  | cons t ts ih=>
    intro k
    rw[za7,wtL,List.length_append,ih (fun x hx=>IH x (List.mem_cons_of_mem _ hx)) k,PT.flat_eq,List.length_cons,IH t (by simp),PT.wt_eq]
    omega
theorem zkL(L:List PT)(k:Nat):za7 (zp L) k=(sibs L).flatMap fun t=>(t.tag,t.text,k)::za7 (zp t.kids) (k+1):=by
  rw[zda]
  induction sibs L with
  | nil=>rw[List.map_nil,za7];rfl
  | cons t ts ih=>rw[List.map_cons,za7,ih,zox,List.flatMap_cons]
def elB(t:TT):Bool:=!t.tag.ch.isEmpty
theorem zpy(t:TT):elB t=!t.tag.s.data.toList.isEmpty:=by
  unfold elB
  have h1:=t.tag.ch_length
  have h2:t.tag.s.data.toList.length=t.tag.s.size:=by rw[Array.length_toList];rfl
  cases hc:t.tag.ch with
  | nil=>
    rw[hc,List.length_nil]at h1
    have:t.tag.s.data.toList=[]:=List.eq_nil_of_length_eq_zero (by omega)
    rw[this]
    rfl
  | cons x l=>
    rw[hc,List.length_cons]at h1
    cases hd:t.tag.s.data.toList with
    | nil=>rw[hd,List.length_nil]at h2;omega
    | cons y m=>rfl
theorem zkM(t:TT):elB t=true↔t.tag.ch≠[]:=by unfold elB;cases t.tag.ch<;>simp
theorem zef(t:TT)(w:World) :
    Calls Tryz.prog 99 #[.agg #[.string t.tag.s,.slice t.tag.A t.tag.n t.tag.c,.slice t.A t.n t.c,.slice t.K t.kn t.kc,.string t.text.s,.slice t.text.A t.text.n t.text.c]] w fun e w'=>e=.returned (.bool (elB t))/\Below w.heap.size w w':=by
  have hb:Below w.heap.size w (w.alloc (.cells #[.string t.tag.s,.slice t.tag.A t.tag.n t.tag.c,.slice t.A t.n t.c,.slice t.K t.kn t.kc,.string t.text.s,.slice t.text.A t.text.n t.text.c] 48)):=(Below.refl _ _).alloc (Nat.le_refl _) _
  go_enter Tryz.func99,Tryz.ntmps99
  go_wp2_with fail
  go_ret
  refine⟨za3 ?_,hb⟩
  rw[zpy,ByteArray.toList_eq]
theorem zhK(t:TT)(w:World) :
    Calls Tryz.prog 49 #[.agg #[.string t.tag.s,.slice t.tag.A t.tag.n t.tag.c,.slice t.A t.n t.c,.slice t.K t.kn t.kc,.string t.text.s,.slice t.text.A t.text.n t.text.c]] w fun e w'=>e=.returned (.bool true)/\Below w.heap.size w w':=by
  have hb:Below w.heap.size w (w.alloc (.cells #[.string t.tag.s,.slice t.tag.A t.tag.n t.tag.c,.slice t.A t.n t.c,.slice t.K t.kn t.kc,.string t.text.s,.slice t.text.A t.text.n t.text.c] 48)):=(Below.refl _ _).alloc (Nat.le_refl _) _
  go_enter Tryz.func49,Tryz.ntmps49
  go_wp2_with fail
  go_ret
  exact⟨rfl,hb⟩
structure Wants (F:Nat) (p:TT->Bool):Prop where
  enters:∀ args w',Sem.run Tryz.prog (callFunc F args) w'=.ok (.enter F args) w'
  tells:∀ (t:TT) w',Calls Tryz.prog F #[.agg #[.string t.tag.s,.slice t.tag.A t.tag.n t.tag.c,.slice t.A t.n t.c,.slice t.K t.kn t.kc,.string t.text.s,.slice t.text.A t.text.n t.text.c]] w' fun e w''=>e=.returned (.bool (p t))/\Below w'.heap.size w' w''
theorem zkN:Wants 49 (fun _=>true):=⟨fun _ _=>rfl,zhK⟩
structure TreesIn0 (w:World) (A:Option Addr) (n:Nat) (ts:List TT):Prop where
  lies:LiesS (fun b=>b < w.heap.size) w A (ze ts)
  all:AllS (fun b=>b < w.heap.size) w ts
  len:ts.length=n
  bulk:bkL (chL ts)<=1048576
theorem TreesIn0.next{w w':World}{A:Option Addr}{n:Nat}{ts:List TT}(h:TreesIn0 w A n ts)(hb:Below w.heap.size w w'):TreesIn0 w' A n ts:=
  ⟨(h.lies.keep (Stays.of hb)).mono fun _ hb2 _=>Nat.lt_of_lt_of_le hb2 hb.size,(h.all.keep (Stays.of hb)).mono fun _ hb2 _=>Nat.lt_of_lt_of_le hb2 hb.size,h.len,h.bulk⟩
def noT:LT:=⟨⟨#[]⟩,none,0,0,[]⟩
def txT1(t:LT):TT:=⟨noT,none,0,0,[],none,0,0,[],t⟩
theorem zn2:noT.ch=[]:=by rfl
theorem zbC(t:LT):(txT1 t).ch=txT t.ch:=by rw[TT.ch_eq];show(⟨noT.ch,[],chL [],t.ch⟩:PT)=_;rw[zn2,chL];rfl
theorem ziI(S:Nat->Prop)(w:World):noT.inS S w:=⟨LiesS.nil _ _ _,rfl,Nat.zero_le _,Nat.zero_le _⟩
theorem zoz{S:Nat->Prop}{w:World}{t:LT}(h:t.inS S w):(txT1 t).inS S w:=
  ⟨ziI S w,h,LiesS.nil _ _ _,rfl,fun _=>rfl,Nat.zero_le _,(fun a ha=>by cases ha),LiesS.nil _ _ _,rfl,fun _=>rfl,Nat.zero_le _⟩
end Go.Proofs.YtddgabjhligeeaaGreat.mk
