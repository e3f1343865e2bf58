import Derived.Test.YtddgabjhligeeaaGreatJoinT
import Derived.Test.YtddgabjhligeeaaGreatJoinAE
namespace Go.Proofs.YtddgabjhligeeaaGreat.mk
open Go.RowKit
def zbF(l:List UInt8):Bool:=l == [98,114] || (l == [104,114] || l == [105,109,103])
def rawH(l:List UInt8):Bool:=l == [115,99,114,105,112,116] || l == [115,116,121,108,101]
def loN(n:Nat):Bool:=decide (97<=n) && decide (n<=122)
def tagN(n:Nat):Bool:=loN n || (decide (48<=n) && decide (n<=57))
def zcS(n:Nat):Bool:=loN n || decide (n=45)
def allN(W:Nat->Bool)(l:List UInt8):Bool:=l.all fun b=>W b.toNat
def tagH(l:List UInt8):Bool:=!l.isEmpty && (loN (l.headD 0).toNat && allN tagN l)
def zdu(l:List UInt8):Bool:=!l.isEmpty && allN zcS l
def zax(al:List PA):Ch:=al.flatMap fun a=>zcu a.1 a.2
def zaa(tag:Ch)(al:List PA):Ch:=if tag=[] then [] else [(60,0)]++ tag++ zax (zH al)++ [(62,0)]
def endH(tag:Ch):Ch:=if tag=[]\/zbF (tag.map (·.1))=true then [] else [(60,0),(47,0)]++ tag++ [(62,0)]
def asH(raw:Bool)(c:Ch):Ch:=if raw then c else escL false c
mutual
def PT.putH:PT->Bool->List Ch
  | ⟨tag,attrs,kids,text⟩,raw=>if tag=[] then [asH raw text] else zaa tag attrs::(putL kids (rawH (tag.map (·.1)))++ [endH tag])
def putL:List PT->Bool->List Ch
  | [],_=>[]
  | t::ts,raw=>t.putH raw++ putL ts raw
end
def zdH(a:PA):Bool:=zdu (nmB a) && zai (a.2.map (·.1))
def rawK(t:PT):Bool:=decide (t.tag=[]) && rawB (t.text.map (·.1))
mutual
def PT.fitH:PT->Bool
  | ⟨tag,attrs,kids,text⟩=>if tag=[] then zai (text.map (·.1)) else tagH (tag.map (·.1)) && (attrs.all zdH && (if zbF (tag.map (·.1)) then kids.isEmpty else if rawH (tag.map (·.1)) then kids.all rawK else fitL kids))
def fitL:List PT->Bool
  | []=>true
  | t::ts=>t.fitH && fitL ts
end
def atW(a:PA):Nat:=a.1.length+a.2.length+1
def atWs(al:List PA):Nat:=(al.map atW).sum
mutual
def PT.sz:PT->Nat
  | ⟨tag,attrs,kids,text⟩=>tag.length+atWs attrs+text.length+1+szL kids
def szL:List PT->Nat
  | []=>0
  | t::ts=>t.sz+szL ts
end
theorem PT.putH_eq(t:PT)(raw:Bool):t.putH raw=if t.tag=[] then [asH raw t.text] else zaa t.tag t.attrs::(putL t.kids (rawH (t.tag.map (·.1)))++ [endH t.tag]):=by cases t;rw[PT.putH]
theorem PT.fitH_eq(t:PT):t.fitH=if t.tag=[] then zai (t.text.map (·.1)) else tagH (t.tag.map (·.1)) && (t.attrs.all zdH && (if zbF (t.tag.map (·.1)) then t.kids.isEmpty else if rawH (t.tag.map (·.1)) then t.kids.all rawK else fitL t.kids)):=by cases t;rw[PT.fitH]
theorem PT.sz_eq(t:PT):t.sz=t.tag.length+atWs t.attrs+t.text.length+1+szL t.kids:=by cases t;rw[PT.sz]
theorem zgn(ts us:List PT)(raw:Bool):putL (ts++ us) raw=putL ts raw++ putL us raw:=by
  induction ts with
  | nil=>simp [putL]
  | cons t ts ih=>rw[List.cons_append,putL,putL,ih,List.append_assoc]
theorem zry(t:PT)(raw:Bool):putL [t] raw=t.putH raw:=by rw[putL,putL,List.append_nil]
theorem zpa{L:List PT}{k:Nat}{t:PT}(h:L[k]?=some t)(raw:Bool):putL (L.take (k+1)) raw=putL (L.take k) raw++ t.putH raw:=by rw[zC h,zgn,zry]
theorem zl0(L:List PT):fitL L=L.all PT.fitH:=by
  induction L with
  | nil=>rw[fitL];rfl
  | cons t L ih=>rw[fitL,ih];rfl
theorem zeH(ts us:List PT):szL (ts++ us)=szL ts+szL us:=by
  induction ts with
  | nil=>simp [szL]
  | cons t ts ih=>rw[List.cons_append,szL,szL,ih];omega
theorem zkD(t:PT):szL [t]=t.sz:=by rw[szL,szL];omega
theorem zgo(a:PA)(l:List PA):atWs (a::l)=a.1.length+a.2.length+1+atWs l:=rfl
theorem zl1(al:List PA):al.length<=atWs al:=by
  induction al with
  | nil=>exact Nat.zero_le _
  | cons a al ih=>rw[zgo,List.length_cons];omega
theorem zrz:∀ L:List PT,bkL L<=szL L:=by
  apply PT.ind
  intro L hk
  induction L with
  | nil=>rw[bkL];exact Nat.zero_le _
  | cons x L ih=>
    have h1:=ih fun t ht=>hk t (List.mem_cons_of_mem _ ht)
    have h2:=hk x (by simp)
    have h3:=zl1 x.attrs
    rw[bkL,szL,PT.bk_eq,PT.sz_eq]
    omega
theorem zdI(a b:List PA):atWs (a++ b)=atWs a+atWs b:=by simp [atWs]
theorem zm0{p:Nat->Bool}{L:List PA}{x:PA}:∀ k,x∈zaB p L k->x∈L:=by
  intro k
  induction k with
  | zero=>intro h;cases h
  | succ k ih=>
    intro h
    rw[zaB]at h
    rcases List.mem_append.1 h with h | h
    . exact ih h
    . split at h
      . cases hk:L[k]? with
        | none=>rw[hk]at h;cases h
        | some y=>
          rw[hk]at h
          have:x=y:=by simpa using h
          subst this
          exact List.mem_of_getElem? hk
      . cases h
theorem zcA{L:List PA}{x:PA}(h:x∈zH L):x∈L:=zm0 _ h
theorem zty(p:Nat->Bool)(L:List PA):∀ k,atWs (zaB p L k)<=atWs (L.take k):=by
  intro k
  induction k with
  | zero=>simp [zaB,atWs]
  | succ k ih=>
    cases hk:L[k]? with
    | none=>
      have e:L.take (k+1)=L.take k:=by rw[List.take_add_one,hk];simp
      have e2:zaB p L (k+1)=zaB p L k:=by rw[zaB,hk];split<;>simp
      rw[e,e2];exact ih
    | some y=>
      rw[zC hk,zdI,zaB,hk,zdI]
      split
      . simp only[Option.toList_some];omega
      . have:atWs ([]:List PA)=0:=rfl
        omega
theorem onceW(L:List PA):atWs (zH L)<=atWs L:=by
  have h:=zty (zbm L) L L.length
  rw[List.take_length]at h
  exact h
theorem zie(a b:List PA):zax (a++ b)=zax a++ zax b:=by simp [zax]
theorem zkE{L:List PA}{k:Nat}{x:PA}(h:L[k]?=some x):zax (L.take (k+1))=zax (L.take k)++ zcu x.1 x.2:=by rw[zC h,zie];simp [zax]
theorem zm1(al:List PA):(zax al).length<=6 * atWs al:=by
  induction al with
  | nil=>simp [zax]
  | cons a al ih=>
    have h1:=zjb a.1 a.2
    have e:zax (a::al)=zcu a.1 a.2++ zax al:=rfl
    rw[e,List.length_append,zgo]
    omega
theorem zm2(tag:Ch)(al:List PA):(zaa tag al).length<=tag.length+6 * atWs al+2:=by
  have h1:=zm1 (zH al)
  have h2:=onceW al
  unfold zaa
  split
  . simp
  . simp only[List.length_append,List.length_cons,List.length_nil];omega
theorem ztz(raw:Bool)(c:Ch):(asH raw c).length<=6 * c.length:=by
  unfold asH
  split
  . omega
  . exact(zdS false c).2
theorem zeI:∀ (L:List PT) (raw:Bool),(putL L raw).length<=2 * szL L:=by
  have key:∀ L:List PT,∀ raw,(putL L raw).length<=2 * szL L:=by
    apply PT.ind
    intro L hk
    induction L with
    | nil=>intro raw;rw[putL];exact Nat.zero_le _
    | cons x L ih=>
      intro raw
      have h1:=ih (fun t ht=>hk t (List.mem_cons_of_mem _ ht)) raw
      have h2:=hk x (by simp) (rawH (x.tag.map (·.1)))
      rw[putL,szL,PT.sz_eq,PT.putH_eq,List.length_append]
      split
      . simp only[List.length_cons,List.length_nil];omega
      . simp only[List.length_cons,List.length_append,List.length_nil];omega
  exact key
theorem zjz{a:List UInt8}(h:zai a=true)(b:List UInt8):zai (a++ b)=zai b:=by
  induction a using zj7 with
  | nil=>rfl
  | next l hl ih=>
    rw[zbn hl,Bool.and_eq_true,Bool.not_eq_true']at h
    have hr:(nx l).2=true:=by
      have:=h.1
      unfold zac at this
      rw[Bool.or_eq_false_iff]at this
      simpa using this.1
    have hb:=zfi hl
    have e:l++ b=l.take (nx l).1++ (l.drop (nx l).1++ b):=by rw[<-List.append_assoc,List.take_append_drop]
    have hn:nx (l++ b)=nx l:=by rw[e];exact zlb hr _
    have hs:zac (l++ b)=false:=by
      have:=h.1
      unfold zac at this ⊢
      rw[hn]
      cases l with
      | nil=>exact absurd rfl hl
      | cons x l=>exact this
    have hd:(l++ b).drop (nx l).1=l.drop (nx l).1++ b:=by rw[List.drop_append,show(nx l).1 - l.length=0 by omega,List.drop_zero]
    rw[zbn (by simp [hl]),hs,hn,hd,ih h.2]
    rfl
theorem zeJ{a b:List UInt8}(h:zai a=true)(h2:zai b=true):zai (a++ b)=true:=by rw[zjz h,h2]
theorem zpb{b:UInt8}(h0:1<=b.toNat)(h1:b.toNat < 128)(l:List UInt8):zai (b::l)=zai l:=by
  have hn:nx (b::l)=(1,true):=by
    have hs:shp b.toNat=(1,0,0):=by unfold shp;rw[if_pos h1]
    simp only[nx,hs]
    rfl
  have hs:zac (b::l)=false:=by
    unfold zac
    rw[hn]
    simp only[Bool.not_true,Bool.false_or,List.head?_cons]
    rw[beq_eq_false_iff_ne]
    intro h
    injection h with h
    subst h
    simp at h0
  rw[zbn (by simp),hs,hn]
  rfl
theorem zeK{l:List UInt8}(h:∀ b∈l,1<=b.toNat/\b.toNat < 128):zai l=true:=by
  induction l with
  | nil=>exact zek
  | cons b l ih=>
    have hb:=h b (by simp)
    rw[zpb hb.1 hb.2]
    exact ih fun c hc=>h c (List.mem_cons_of_mem _ hc)
theorem zrA{m lo hi:Nat}{t:List UInt8}(hlo:128<=lo):∀ c∈t.take (fit m lo hi t),128<=c.toNat:=by
  induction t generalizing m lo hi with
  | nil=>intro c hc;simp at hc
  | cons x t ih=>
    cases m with
    | zero=>intro c hc;simp [fit]at hc
    | succ m=>
      unfold fit
      split
      . rename_i hx
        intro c hc
        rw[List.take_succ_cons]at hc
        rcases List.mem_cons.1 hc with rfl | hc
        . omega
        . exact ih (by omega) c hc
      . intro c hc;simp at hc
theorem zrB{n:Nat}(h:128<=n):(shp n).1=0\/128<=(shp n).2.1:=by
  unfold shp
  rw[if_neg (by omega)]
  repeat' split
  all_goals first | (left;rfl) | (right;decide)
theorem ztA{b:UInt8}{t:List UInt8}(hb:128<=b.toNat)(hr:(nx (b::t)).2=true):∀ c∈(b::t).take (nx (b::t)).1,128<=c.toNat:=by
  simp only[nx,decide_eq_true_eq]at hr
  rcases zrB hb with h | h
  . omega
  . intro c hc
    simp only[nx]at hc
    rw[List.take_succ_cons]at hc
    rcases List.mem_cons.1 hc with rfl | hc
    . exact hb
    . exact zrA h c hc
theorem zuM{b:UInt8}{t:List UInt8}(hb:b.toNat < 128):nx (b::t)=(1,true):=by
  have hs:shp b.toNat=(1,0,0):=by unfold shp;rw[if_pos hb]
  simp only[nx,hs]
  rfl
theorem zrC{v:Bool}{b:UInt8}(h0:1<=b.toNat)(h1:b.toNat < 128):∀ c∈escB v b,1<=c.toNat/\c.toNat < 128:=by
  unfold escB
  repeat' split
  all_goals
    intro c hc
    simp only[List.mem_cons,List.not_mem_nil,or_false]at hc
    first
      | (rcases hc with rfl | rfl | rfl | rfl | rfl | rfl<;>decide)
      | (rcases hc with rfl | rfl | rfl | rfl | rfl<;>decide)
      | (rcases hc with rfl | rfl | rfl | rfl<;>decide)
      | (subst hc;exact⟨h0,h1⟩)
theorem zpc{v:Bool}{b:UInt8}(h:128<=b.toNat):escB v b=[b]:=by
  have hne:∀ x:UInt8,x.toNat < 128->b≠x:=fun x hx e=>by subst e;omega
  unfold escB
  rw[if_neg (hne 38 (by decide)),if_neg (hne 60 (by decide)),if_neg (hne 62 (by decide)),if_neg (hne 13 (by decide)),if_neg (fun e=>hne 34 (by decide) e.1)]
theorem zpd{v:Bool}{l:List UInt8}(h:∀ c∈l,128<=c.toNat):l.flatMap (escB v)=l:=by
  induction l with
  | nil=>rfl
  | cons b l ih=>rw[List.flatMap_cons,zpc (h b (by simp)),ih fun c hc=>h c (List.mem_cons_of_mem _ hc)];rfl
theorem zpe(v:Bool){l:List UInt8}(h:zai l=true):zai (l.flatMap (escB v))=true:=by
  induction l using zj7 with
  | nil=>exact h
  | next l hl ih=>
    have hv:=h
    rw[zbn hl,Bool.and_eq_true,Bool.not_eq_true']at h
    have hso:=h.1
    have hr:(nx l).2=true:=by
      unfold zac at hso
      rw[Bool.or_eq_false_iff]at hso
      simpa using hso.1
    have hi:=ih h.2
    cases l with
    | nil=>exact absurd rfl hl
    | cons b t=>
      by_cases hb:b.toNat < 128
      . have h0:1<=b.toNat:=by
          rcases Nat.eq_zero_or_pos b.toNat with h0 | h0
          . have e:b=0:=UInt8.toNat_inj.1 (by rw[h0];rfl)
            subst e
            unfold zac at hso
            rw[Bool.or_eq_false_iff]at hso
            simp at hso
          . exact h0
        rw[zuM hb]at hi
        rw[List.flatMap_cons]
        exact zeJ (zeK (zrC h0 hb)) hi
      . have hh:=ztA (by omega) hr
        have hbd:=zfi hl
        have e:(b::t)=(b::t).take (nx (b::t)).1++ (b::t).drop (nx (b::t)).1:=(List.take_append_drop _ _).symm
        have hk:zai ((b::t).take (nx (b::t)).1)=true:=by
          have h1:=zlb hr []
          rw[List.append_nil]at h1
          have hne:(b::t).take (nx (b::t)).1≠[]:=by
            intro e2
            have:=congrArg List.length e2
            rw[List.length_take]at this
            simp at this
            omega
          have hs2:zac ((b::t).take (nx (b::t)).1)=false:=by
            unfold zac at hso ⊢
            rw[h1,List.head?_take,if_neg (by omega)]
            exact hso
          rw[zbn hne,hs2,h1,List.drop_eq_nil_of_le (by rw[List.length_take];omega),zek]
          rfl
        rw[e,List.flatMap_append,zpd hh]
        exact zeJ hk hi
theorem zrD(v:Bool)(l:Ch):(escL v l).map (·.1)=(l.map (·.1)).flatMap (escB v):=by
  induction l with
  | nil=>rfl
  | cons x l ih=>
    rw[zc0,List.map_append,ih,List.map_cons,List.flatMap_cons]
    congr 1
    unfold escC putE
    rw[List.map_map]
    exact List.map_id _
def okC(c:Ch):Prop:=zai (c.map (·.1))=true
theorem okC.append{a b:Ch}(h:okC a)(h2:okC b):okC (a++ b):=by
  unfold okC at *
  rw[List.map_append]
  exact zeJ h h2
theorem zif:okC []:=zek
theorem zbz{l:Ch}(h:∀ b∈l.map (·.1),1<=b.toNat/\b.toNat < 128):okC l:=zeK h
theorem okC.esc{l:Ch}(v:Bool)(h:okC l):okC (escL v l):=by
  unfold okC at *
  rw[zrD]
  exact zpe v h
theorem zpf{n:Nat}(h:loN n=true):1<=n/\n < 128:=by
  unfold loN at h
  rw[Bool.and_eq_true,decide_eq_true_eq,decide_eq_true_eq]at h
  omega
theorem zl2{n:Nat}(h:tagN n=true):1<=n/\n < 128:=by
  unfold tagN at h
  rcases Bool.or_eq_true _ _ ▸ h with h | h
  . exact zpf h
  . rw[Bool.and_eq_true,decide_eq_true_eq,decide_eq_true_eq]at h
    omega
theorem zjA{n:Nat}(h:zcS n=true):1<=n/\n < 128:=by
  unfold zcS at h
  rcases Bool.or_eq_true _ _ ▸ h with h | h
  . exact zpf h
  . rw[decide_eq_true_eq]at h
    omega
theorem zpg{l:Ch}(h:tagH (l.map (·.1))=true):okC l:=by
  refine zbz fun b hb=>?_
  unfold tagH at h
  rw[Bool.and_eq_true,Bool.and_eq_true]at h
  exact zl2 (List.all_eq_true.1 h.2.2 b hb)
theorem zrE{l:Ch}(h:zdu (l.map (·.1))=true):okC l:=by
  refine zbz fun b hb=>?_
  unfold zdu at h
  rw[Bool.and_eq_true]at h
  exact zjA (List.all_eq_true.1 h.2 b hb)
theorem zrF{a:PA}(h:zdH a=true):okC (zcu a.1 a.2):=by
  unfold zdH at h
  rw[Bool.and_eq_true]at h
  unfold zcu quoL
  have h1:okC a.1:=zrE h.1
  have h2:okC a.2:=h.2
  exact((zbz (by decide)).append h1).append ((zbz (by decide)).append (((zbz (by decide)).append (h2.esc true)).append (zbz (by decide))))
theorem zph{al:List PA}(h:∀ a∈al,zdH a=true):okC (zax al):=by
  induction al with
  | nil=>exact zif
  | cons a al ih=>exact(zrF (h a (by simp))).append (ih fun b hb=>h b (List.mem_cons_of_mem _ hb))
theorem zpi{tag:Ch}{al:List PA}(h:tagH (tag.map (·.1))=true)(h2:al.all zdH=true):okC (zaa tag al):=by
  unfold zaa
  split
  . exact zif
  . exact(((zbz (by decide)).append (zpg h)).append (zph fun a ha=>List.all_eq_true.1 h2 a (zcA ha))).append (zbz (by decide))
theorem ztB{tag:Ch}(h:tagH (tag.map (·.1))=true):okC (endH tag):=by
  unfold endH
  split
  . exact zif
  . exact((zbz (by decide)).append (zpg h)).append (zbz (by decide))
theorem ztC{L:List PT}(h:L.all rawK=true):∀ c∈putL L true,okC c:=by
  induction L with
  | nil=>intro c hc;rw[putL]at hc;cases hc
  | cons t L ih=>
    rw[List.all_cons,Bool.and_eq_true]at h
    intro c hc
    rw[putL]at hc
    rcases List.mem_append.1 hc with hc | hc
    . have h1:=h.1
      unfold rawK at h1
      rw[Bool.and_eq_true,decide_eq_true_eq]at h1
      rw[PT.putH_eq,if_pos h1.1]at hc
      have:c=t.text:=by simpa [asH]using hc
      subst this
      have h2:=h1.2
      unfold rawB at h2
      rw[Bool.and_eq_true]at h2
      exact h2.2
    . exact ih h.2 c hc
theorem zuN:∀ L:List PT,fitL L=true->∀ c∈putL L false,okC c:=by
  apply PT.ind
  intro L hk
  induction L with
  | nil=>intro _ c hc;rw[putL]at hc;cases hc
  | cons t L ih=>
    intro h c hc
    rw[fitL,Bool.and_eq_true]at h
    rw[putL]at hc
    rcases List.mem_append.1 hc with hc | hc
    . have h1:=h.1
      rw[PT.fitH_eq]at h1
      rw[PT.putH_eq]at hc
      by_cases ht:t.tag=[]
      . rw[if_pos ht]at h1 hc
        have e:c=escL false t.text:=by simpa [asH]using hc
        rw[e]
        exact okC.esc false h1
      . rw[if_neg ht,Bool.and_eq_true,Bool.and_eq_true]at h1
        rw[if_neg ht]at hc
        rcases List.mem_cons.1 hc with rfl | hc
        . exact zpi h1.1 h1.2.1
        . rcases List.mem_append.1 hc with hc | hc
          . have h2:=h1.2.2
            by_cases hv:zbF (t.tag.map (·.1))=true
            . rw[if_pos hv]at h2
              have e:t.kids=[]:=by simpa using h2
              rw[e,putL]at hc
              cases hc
            . rw[if_neg hv]at h2
              by_cases hr:rawH (t.tag.map (·.1))=true
              . rw[if_pos hr]at h2
                rw[hr]at hc
                exact ztC h2 c hc
              . rw[if_neg hr]at h2
                have hr':rawH (t.tag.map (·.1))=false:=by simpa using hr
                rw[hr']at hc
                exact hk t (by simp) h2 c hc
          . have e:c=endH t.tag:=by simpa using hc
            rw[e]
            exact ztB h1.1
    . exact ih (fun x hx=>hk x (List.mem_cons_of_mem _ hx)) h.2 c hc
theorem zrG{ps:List Ch}(h:∀ c∈ps,okC c):okC ps.flatten:=by
  induction ps with
  | nil=>exact zif
  | cons p ps ih=>
    rw[List.flatten_cons]
    exact(h p (by simp)).append (ih fun c hc=>h c (List.mem_cons_of_mem _ hc))
theorem zm3{L:List PT}(h:fitL L=true):zai ((putL L false).flatten.map (·.1))=true:=zrG (zuN L h)
end Go.Proofs.YtddgabjhligeeaaGreat.mk
