import Derived.Test.YtddgabjhligeeaaGreatJnS
import Derived.Test.YtddgabjhligeeaaGreatJnV
namespace Go.Proofs.YtddgabjhligeeaaGreat.mk
open Go.RowKit
def winL:List Int:=[8364,129,8218,402,8222,8230,8224,8225,710,8240,352,8249,338,141,381,143,144,8216,8217,8220,8221,8226,8211,8212,732,8482,353,8250,339,157,382,376]
def winN(n:Int):Int:=if 128<=n/\n<=159 then winL.getD (n - 128).toNat 0 else n
def numB(n:Int):ByteArray:=zbn (winN n)
theorem zna(n:Int):1<=(numB n).size:=by
  have h:=List.length_pos_iff.2 (zmJ (winN n))
  rw[Array.length_toList]at h
  exact h
theorem zoG(n:Int):(numB n).size<=4:=zkp _
theorem znb{n m:Int}(h:1114112<=n)(hm:1114112<=m):numB n=numB m:=by
  have e:∀ x:Int,1114112<=x->numB x=Utf8.encode 65533:=by
    intro x hx
    unfold numB winN zbn zcP
    have h1:¬ (128<=x/\x<=159):=by omega
    have h2:¬ (1<=x/\x<=1114111/\¬ (55296<=x/\x<=57343)):=by omega
    simp only[if_neg h1,if_neg h2]
  rw[e n h,e m hm]
def digV(base:Int)(b:UInt8):Bool:=decide (0<=hexB b) && decide (hexB b < base)
def valD(base:Int)(l:List UInt8):Int:=l.foldl (fun n b=>n * base+hexB b) 0
def valC(top base:Int)(l:List UInt8):Int:=l.foldl (fun n b=>min (n * base+hexB b) top) 0
theorem zk3(base:Int)(l:List UInt8)(b:UInt8):valD base (l++ [b])=valD base l * base+hexB b:=by simp [valD,List.foldl_append]
theorem zgJ(top base:Int)(l:List UInt8)(b:UInt8):valC top base (l++ [b])=min (valC top base l * base+hexB b) top:=by simp [valC,List.foldl_append]
theorem zk4{base:Int}{b:UInt8}(h:digV base b=true):0<=hexB b/\hexB b < base:=by
  unfold digV at h
  simpa using h
theorem zk5{top base:Int}(ht:0<=top)(hb:1<=base)(l:List UInt8)(h:∀ b∈l,digV base b=true):0<=valD base l/\valC top base l=min (valD base l) top:=by
  induction l using zbw with
  | nil=>exact⟨Int.le_refl _,by show(0:Int)=min 0 top;omega⟩
  | append_singleton l b ih=>
    obtain⟨h0,h1⟩:=ih fun x hx=>h x (by simp [hx])
    have hv:=zk4 (h b (by simp))
    have h2:0<=valD base l * base:=Int.mul_nonneg h0 (by omega)
    rw[zk3,zgJ,h1]
    refine⟨by omega,?_⟩
    by_cases hc:valD base l<=top
    . rw[show min (valD base l) top=valD base l by omega]
    . rw[show min (valD base l) top=top by omega]
      have h3:top * 1<=top * base:=Int.mul_le_mul_of_nonneg_left hb ht
      have h4:top * base<=valD base l * base:=Int.mul_le_mul_of_nonneg_right (by omega) (by omega)
      omega
theorem znc{top base:Int}(ht:1114112<=top)(hb:1<=base)(l:List UInt8)(h:∀ b∈l,digV base b=true):numB (valC top base l)=numB (valD base l):=by
  rw[(zk5 (by omega) hb l h).2]
  by_cases hc:valD base l<=top
  . rw[Int.min_eq_left hc]
  . rw[Int.min_eq_right (by omega)]
    exact znb ht (by omega)
def nameL:List (List UInt8 × Int):=[([97,109,112],38),([108,116],60),([103,116],62),([113,117,111,116],34),([97,112,111,115],39),([110,98,115,112],160)]
def zgK(b:List UInt8):Option Int:=(nameL.find? fun x=>x.1 == b).map (·.2)
theorem znd{k:Nat}{nm:List UInt8}{c:Int}(h:nameL[k]?=some (nm,c)):zgK nm=some c:=by
  match k,h with
  | 0,h=>cases h;decide
  | 1,h=>cases h;decide
  | 2,h=>cases h;decide
  | 3,h=>cases h;decide
  | 4,h=>cases h;decide
  | 5,h=>cases h;decide
  | k+6,h=>simp [nameL]at h
theorem zdc{b:List UInt8}{n:Int}(h:zgK b=some n):∃ k,k < 6/\nameL[k]?=some (b,n):=by
  unfold zgK at h
  obtain⟨x,hx,hn⟩:=Option.map_eq_some_iff.1 h
  have h1:=List.find?_some hx
  have h2:=List.mem_of_find?_eq_some hx
  obtain⟨k,hk⟩:=List.mem_iff_getElem?.1 h2
  have e:x.1=b:=by simpa using h1
  exact⟨k,(List.getElem?_eq_some_iff.1 hk).1,by rw[hk,<-e,<-hn]⟩
theorem ziL{k:Nat}{nm:List UInt8}{c:Int}(h:nameL[k]?=some (nm,c)):(∀ b∈nm,(b != 59)=true)/\2<=nm.length/\nm.length<=4:=by
  match k,h with
  | 0,h=>cases h;decide
  | 1,h=>cases h;decide
  | 2,h=>cases h;decide
  | 3,h=>cases h;decide
  | 4,h=>cases h;decide
  | 5,h=>cases h;decide
  | k+6,h=>simp [nameL]at h
def digs(base:Int)(u:List UInt8):Option Int:=if u≠[]/\u.all (digV base)=true then some (valD base u) else none
def numS(b:List UInt8):Option Int:=
  match b with
  | c::t=>if c=35 then (match t with | x::u=>if x=120\/x=88 then digs 16 u else digs 10 (x::u) | []=>none) else none
  | []=>none
def zbb(b:List UInt8):Option Int:=match zgK b with | some n=>some n | none=>numS b
theorem zgL{base:Int}{u:List UInt8}{n:Int}(h:digs base u=some n):u≠[]/\(∀ b∈u,digV base b=true)/\n=valD base u:=by
  unfold digs at h
  by_cases hc:u≠[]/\u.all (digV base)=true
  . rw[if_pos hc]at h
    exact⟨hc.1,List.all_eq_true.1 hc.2,by injection h with h;exact h.symm⟩
  . rw[if_neg hc]at h;cases h
theorem zk6{base:Int}{u:List UInt8}(h1:u≠[])(h2:∀ b∈u,digV base b=true):digs base u=some (valD base u):=by
  unfold digs;rw[if_pos ⟨h1,List.all_eq_true.2 h2⟩]
theorem zne{u:List UInt8}(h1:u≠[])(h2:∀ b∈u,digV 10 b=true):numS (35::u)=some (valD 10 u):=by
  cases u with
  | nil=>exact absurd rfl h1
  | cons x u=>
    have hx:=h2 x (by simp)
    have hx2:¬ (x=120\/x=88):=by
      rintro(e | e)<;>subst e<;>revert hx<;>decide
    show(if (35:UInt8)=35 then (if x=120\/x=88 then digs 16 u else digs 10 (x::u)) else none)=_
    rw[if_pos rfl,if_neg hx2]
    exact zk6 h1 h2
theorem ziM{x:UInt8}{u:List UInt8}(hx:x=120\/x=88)(h1:u≠[])(h2:∀ b∈u,digV 16 b=true):numS (35::x::u)=some (valD 16 u):=by
  show(if (35:UInt8)=35 then (if x=120\/x=88 then digs 16 u else digs 10 (x::u)) else none)=_
  rw[if_pos rfl,if_pos hx]
  exact zk6 h1 h2
theorem zgM{b:List UInt8}{n:Int}(h:numS b=some n):∃ (bg u:List UInt8) (base:Int),((bg,base)=([35],10)\/(bg,base)=([35,120],16)\/(bg,base)=([35,88],16))/\b=bg++ u/\u≠[]/\(∀ y∈u,digV base y=true)/\n=valD base u:=by
  unfold numS at h
  match b with
  | []=>cases h
  | c::t=>
    simp only at h
    by_cases hc:c=35
    . subst hc
      rw[if_pos rfl]at h
      match t with
      | []=>cases h
      | x::u=>
        simp only at h
        by_cases hx:x=120\/x=88
        . rw[if_pos hx]at h
          have hd:=zgL h
          rcases hx with rfl | rfl
          . exact⟨[35,120],u,16,.inr (.inl rfl),rfl,hd.1,hd.2⟩
          . exact⟨[35,88],u,16,.inr (.inr rfl),rfl,hd.1,hd.2⟩
        . rw[if_neg hx]at h
          have hd:=zgL h
          exact⟨[35],x::u,10,.inl rfl,rfl,hd.1,hd.2⟩
    . rw[if_neg hc]at h;cases h
theorem zjv(u:List UInt8):zgK (35::u)=none:=by
  cases h:zgK (35::u) with
  | none=>rfl
  | some n=>
    obtain⟨k,hk,hn⟩:=zdc h
    match k,hn with
    | 0,h=>cases h
    | 1,h=>cases h
    | 2,h=>cases h
    | 3,h=>cases h
    | 4,h=>cases h
    | 5,h=>cases h
    | k+6,h=>simp [nameL]at h
theorem zgN{k:Nat}{nm:List UInt8}{c:Int}(h:nameL[k]?=some (nm,c)):zbb nm=some c:=by unfold zbb;rw[znd h]
theorem zcf(u:List UInt8):zbb (35::u)=numS (35::u):=by unfold zbb;rw[zjv]
theorem zhO{b:List UInt8}{n:Int}(h:zbb b=some n):2<=b.length:=by
  unfold zbb at h
  cases hn:zgK b with
  | some m=>
    obtain⟨k,_,hk⟩:=zdc hn
    exact(ziL hk).2.1
  | none=>
    rw[hn]at h
    obtain⟨bg,u,base,hb,rfl,hu,_⟩:=zgM h
    have:=List.length_pos_iff.2 hu
    rw[List.length_append]
    rcases hb with hb | hb | hb<;>(injection hb with hb _;subst hb;simp only[List.length_cons,List.length_nil];omega)
def zb8(l:List UInt8):List UInt8:=l.takeWhile (· != 59)
theorem znf(l:List UInt8):∀ b∈zb8 l,(b != 59)=true:=by
  unfold zb8
  induction l with
  | nil=>intro b hb;cases hb
  | cons x l ih=>
    intro b hb
    rw[List.takeWhile_cons]at hb
    cases hx:x != 59 with
    | true=>rw[hx]at hb;simp only[if_true]at hb;rcases List.mem_cons.1 hb with rfl | hb;exact hx;exact ih b hb
    | false=>rw[hx]at hb;simp at hb
theorem ziN{b r:List UInt8}(h:∀ x∈b,(x != 59)=true):zb8 (b++ 59::r)=b:=by
  unfold zb8
  rw[List.takeWhile_append_of_pos h]
  simp
theorem zhP{l:List UInt8}(h:(zb8 l).length < l.length):∃ r,l=zb8 l++ 59::r:=by
  induction l with
  | nil=>simp at h
  | cons x l ih=>
    unfold zb8 at h ih ⊢
    rw[List.takeWhile_cons]at h ⊢
    cases hx:x != 59 with
    | true=>
      rw[hx]at h
      simp only[if_true,List.length_cons]at h ⊢
      obtain⟨r,hr⟩:=ih (by omega)
      exact⟨r,by rw[List.cons_append,<-hr]⟩
    | false=>
      have e:x=59:=by simpa using hx
      subst e
      exact⟨l,by simp⟩
def zbM(l:List UInt8):Option (Int × Nat):=
  match l with
  | c::t=>if c=38/\(zb8 t).length < t.length then (zbb (zb8 t)).map fun n=>(n,(zb8 t).length+2) else none
  | []=>none
theorem zcg{c:UInt8}{t:List UInt8}(h:c≠38):zbM (c::t)=none:=by
  show(if c=38/\_ then _ else none)=none
  rw[if_neg (fun e=>h e.1)]
theorem zjw{t:List UInt8}(h:¬ (zb8 t).length < t.length):zbM (38::t)=none:=by
  show(if (38:UInt8)=38/\(zb8 t).length < t.length then _ else none)=none
  rw[if_neg (fun e=>h e.2)]
theorem zgO{t:List UInt8}(h:(zb8 t).length < t.length):zbM (38::t)=(zbb (zb8 t)).map fun n=>(n,(zb8 t).length+2):=by
  show(if (38:UInt8)=38/\(zb8 t).length < t.length then _ else none)=_
  rw[if_pos ⟨rfl,h⟩]
theorem ziO{b r:List UInt8}{n:Int}(hb:∀ x∈b,(x != 59)=true)(h:zbb b=some n):zbM (38::(b++ 59::r))=some (n,b.length+2):=by
  rw[zgO (by rw[ziN hb];simp),ziN hb,h]
  rfl
theorem ze3{l:List UInt8}{n:Int}{k:Nat}(h:zbM l=some (n,k)):∃ b r,l=38::(b++ 59::r)/\(∀ x∈b,(x != 59)=true)/\zbb b=some n/\k=b.length+2:=by
  match l with
  | []=>cases h
  | c::t=>
    by_cases hc:c=38
    . subst hc
      by_cases hl:(zb8 t).length < t.length
      . rw[zgO hl]at h
        obtain⟨m,hm,e⟩:=Option.map_eq_some_iff.1 h
        injection e with e1 e2
        subst e1 e2
        obtain⟨r,hr⟩:=zhP hl
        exact⟨zb8 t,r,by rw[<-hr],znf t,hm,rfl⟩
      . rw[zjw hl]at h;cases h
    . rw[zcg hc]at h;cases h
theorem ziP{l:List UInt8}{n:Int}{k:Nat}(h:zbM l=some (n,k)):4<=k/\k<=l.length:=by
  obtain⟨b,r,rfl,_,hs,rfl⟩:=ze3 h
  have:=zhO hs
  simp
  omega
def zeJ(l:List UInt8):ByteArray × Nat:=match zbM l with | some (n,k)=>(numB n,k) | none=>(⟨#[]⟩,0)
def zcz(l:List UInt8):List UInt8 × Nat:=match zbM l with | some (n,k)=>((numB n).data.toList,k) | none=>(l.take 1,1)
theorem zdd{l:List UInt8}{n:Int}{k:Nat}(h:zbM l=some (n,k)):zeJ l=(numB n,k):=by unfold zeJ;rw[h]
theorem zde{l:List UInt8}(h:zbM l=none):zeJ l=(⟨#[]⟩,0):=by unfold zeJ;rw[h]
theorem zdf{l:List UInt8}{n:Int}{k:Nat}(h:zbM l=some (n,k)):zcz l=((numB n).data.toList,k):=by unfold zcz;rw[h]
theorem zdg{l:List UInt8}(h:zbM l=none):zcz l=(l.take 1,1):=by unfold zcz;rw[h]
theorem zng{l:List UInt8}(h:l≠[]):1<=(zcz l).2/\(zcz l).2<=l.length/\1<=(zcz l).1.length/\(zcz l).1.length<=(zcz l).2/\(zcz l).1.length<=4:=by
  have h0:0 < l.length:=List.length_pos_iff.2 h
  cases hr:zbM l with
  | none=>rw[zdg hr];simp only[List.length_take];omega
  | some p=>
    obtain⟨n,k⟩:=p
    have hb:=ziP hr
    have h1:=zna n
    have h2:=zoG n
    have hs:(numB n).data.toList.length=(numB n).size:=by rw[Array.length_toList];rfl
    rw[zdf hr]
    simp only[hs]
    omega
def nxE(l:List (UInt8 × Int)):List UInt8 × Nat:=zcz (l.map (·.1))
theorem zgP{l:List (UInt8 × Int)}(h:l≠[]):1<=(nxE l).2/\(nxE l).2<=l.length/\1<=(nxE l).1.length/\(nxE l).1.length<=(nxE l).2/\(nxE l).1.length<=4:=by
  have:=zng (l:=l.map (·.1)) (by simpa using h)
  unfold nxE
  simpa using this
def decE(l:List (UInt8 × Int)):List (UInt8 × Int):=
  if _h:l=[] then [] else putE (nxE l).1 (worT l (nxE l).2)++ decE (l.drop (nxE l).2)
termination_by l.length
decreasing_by (have:=zgP _h;have:0 < l.length:=List.length_pos_iff.2 _h;rw[List.length_drop];omega)
theorem zb0:decE []=[]:=by rw[decE];rfl
theorem zbN{l:List (UInt8 × Int)}(h:l≠[]):decE l=putE (nxE l).1 (worT l (nxE l).2)++ decE (l.drop (nxE l).2):=by
  conv=>lhs;rw[decE,dif_neg h]
theorem zk7{p:List (UInt8 × Int)->Prop}(nil:p [])(next:∀ l,l≠[]->p (l.drop (nxE l).2)->p l)(l:List (UInt8 × Int)):p l:=by
  have h:∀ n,∀ l:List (UInt8 × Int),l.length<=n->p l:=by
    intro n
    induction n with
    | zero=>intro l hl;have e:l=[]:=List.eq_nil_of_length_eq_zero (by omega);subst e;exact nil
    | succ n ih=>
      intro l hl
      by_cases e:l=[]
      . subst e;exact nil
      . exact next l e (ih _ (by have:=zgP e;rw[List.length_drop];omega))
  exact h l.length l (Nat.le_refl _)
theorem zdO(l:List (UInt8 × Int)):(decE l).length<=l.length:=by
  induction l using zk7 with
  | nil=>rw[zb0];exact Nat.le_refl _
  | next l h ih=>have:=zgP h;rw[List.length_drop]at ih;rw[zbN h,List.length_append,zir];omega
theorem InR.decE{l:List (UInt8 × Int)}(h:InR l):InR (mk.decE l):=by
  induction l using zk7 with
  | nil=>rw[zb0];exact h
  | next l hl ih=>
    rw[zbN hl]
    refine InR.append ?_ (ih (h.drop _))
    intro o ho
    rw[zfx]at ho
    rw[(List.mem_replicate.1 ho).2]
    exact zd4 (h.take _)
theorem zfJ{l:List (UInt8 × Int)}{b:UInt8}{o:Int}(hl:l[0]?=some (b,o))(ho:0<=o)(hr:zbM (l.map (·.1))=none):decE l=[(b,o)]++ decE (l.drop 1):=by
  cases l with
  | nil=>cases hl
  | cons x r=>
    injection hl with hl
    subst hl
    rw[zbN (by simp)]
    have h:nxE ((b,o)::r)=([b],1):=zdg hr
    rw[h]
    show putE [b] (worT ((b,o)::r) (0+1))++ _=_
    rw[zd5 (l:=(b,o)::r) (n:=0) (c:=(b,o)) rfl,zkq,show max (0:Int) (b,o).2=o from Int.max_eq_right ho]
    rfl
theorem znh{l:List (UInt8 × Int)}{n:Int}{k:Nat}(hr:zbM (l.map (·.1))=some (n,k)):decE l=putE (numB n).data.toList (zaF ((l.take k).map (·.2)))++ decE (l.drop k):=by
  have hne:l≠[]:=by
    intro e
    subst e
    cases hr
  rw[zbN hne]
  have h:nxE l=((numB n).data.toList,k):=zdf hr
  rw[h]
  rfl
end Go.Proofs.YtddgabjhligeeaaGreat.mk
