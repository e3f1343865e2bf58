import Derived.Test.YtddgabjhligeeaaGreatJoinP
import Derived.Test.YtddgabjhligeeaaGreatJoinR
import Derived.Test.YtddgabjhligeeaaGreatJoinS
set_option maxHeartbeats 1000000
set_option maxRecDepth 100000
namespace Go.Proofs.YtddgabjhligeeaaGreat.mk
open Go.RowKit
def winL:List Int:=[8364,129,8218,402,8222,8230,8224,8225,710,8240,352,8249,338,141,381,143,144,8216,8217,8220,8221,8226,8211,8212,732,8482,353,8250,339,157,382,376]
def winN(n:Int):Int:=if 128<=n/\n<=159 then winL.getD (n - 128).toNat 0 else n
def numB(n:Int):ByteArray:=zb4 (winN n)
theorem zrh(n:Int):1<=(numB n).size:=by
  have h:=List.length_pos_iff.2 (zqO (winN n))
  rw[Array.length_toList]at h
  exact h
theorem ztj(n:Int):(numB n).size<=4:=znV _
theorem zri{n m:Int}(h:1114112<=n)(hm:1114112<=m):numB n=numB m:=by
  have e:∀ x:Int,1114112<=x->numB x=Utf8.encode 65533:=by
    intro x hx
    unfold numB winN zb4 zdP
    have h1:¬ (128<=x/\x<=159):=by omega
    have h2:¬ (1<=x/\x<=1114111/\¬ (55296<=x/\x<=57343)):=by omega
    simp only[if_neg h1,if_neg h2]
  rw[e n h,e m hm]
def digV(base:Int)(b:UInt8):Bool:=decide (0<=hexB b) && decide (hexB b < base)
def valD(base:Int)(l:List UInt8):Int:=l.foldl (fun n b=>n * base+hexB b) 0
def valC(top base:Int)(l:List UInt8):Int:=l.foldl (fun n b=>min (n * base+hexB b) top) 0
theorem zoN(base:Int)(l:List UInt8)(b:UInt8):valD base (l++ [b])=valD base l * base+hexB b:=by simp [valD,List.foldl_append]
theorem zjh(top base:Int)(l:List UInt8)(b:UInt8):valC top base (l++ [b])=min (valC top base l * base+hexB b) top:=by simp [valC,List.foldl_append]
theorem zoO{base:Int}{b:UInt8}(h:digV base b=true):0<=hexB b/\hexB b < base:=by
  unfold digV at h
  simpa using h
theorem zoP{top base:Int}(ht:0<=top)(hb:1<=base)(l:List UInt8)(h:∀ b∈l,digV base b=true):0<=valD base l/\valC top base l=min (valD base l) top:=by
  induction l using za1 with
  | nil=>exact⟨Int.le_refl _,by show(0:Int)=min 0 top;omega⟩
  | append_singleton l b ih=>
    obtain⟨h0,h1⟩:=ih fun x hx=>h x (by simp [hx])
    have hv:=zoO (h b (by simp))
    have h2:0<=valD base l * base:=Int.mul_nonneg h0 (by omega)
    rw[zoN,zjh,h1]
    refine⟨by omega,?_⟩
    by_cases hc:valD base l<=top
    . rw[show min (valD base l) top=valD base l by omega]
    . rw[show min (valD base l) top=top by omega]
      have h3:top * 1<=top * base:=Int.mul_le_mul_of_nonneg_left hb ht
      have h4:top * base<=valD base l * base:=Int.mul_le_mul_of_nonneg_right (by omega) (by omega)
      omega
theorem zrj{top base:Int}(ht:1114112<=top)(hb:1<=base)(l:List UInt8)(h:∀ b∈l,digV base b=true):numB (valC top base l)=numB (valD base l):=by
  rw[(zoP (by omega) hb l h).2]
  by_cases hc:valD base l<=top
  . rw[Int.min_eq_left hc]
  . rw[Int.min_eq_right (by omega)]
    exact zri ht (by omega)
def nameL:List (List UInt8 × Int):=[([97,109,112],38),([108,116],60),([103,116],62),([113,117,111,116],34),([97,112,111,115],39),([110,98,115,112],160)]
def zji(b:List UInt8):Option Int:=(nameL.find? fun x=>x.1 == b).map (·.2)
theorem zrk{k:Nat}{nm:List UInt8}{c:Int}(h:nameL[k]?=some (nm,c)):zji nm=some c:=by
  match k,h with
  | 0,h=>cases h;decide
  | 1,h=>cases h;decide
  | 2,h=>cases h;decide
  | 3,h=>cases h;decide
  | 4,h=>cases h;decide
  | 5,h=>cases h;decide
  | k+6,h=>simp [nameL]at h
theorem zex{b:List UInt8}{n:Int}(h:zji b=some n):∃ k,k < 6/\nameL[k]?=some (b,n):=by
  unfold zji at h
  obtain⟨x,hx,hn⟩:=Option.map_eq_some_iff.1 h
  have h1:=List.find?_some hx
  have h2:=List.mem_of_find?_eq_some hx
  obtain⟨k,hk⟩:=List.mem_iff_getElem?.1 h2
  have e:x.1=b:=by simpa using h1
  exact⟨k,(List.getElem?_eq_some_iff.1 hk).1,by rw[hk,<-e,<-hn]⟩
theorem zlN{k:Nat}{nm:List UInt8}{c:Int}(h:nameL[k]?=some (nm,c)):(∀ b∈nm,(b != 59)=true)/\2<=nm.length/\nm.length<=4:=by
  match k,h with
  | 0,h=>cases h;decide
  | 1,h=>cases h;decide
  | 2,h=>cases h;decide
  | 3,h=>cases h;decide
  | 4,h=>cases h;decide
  | 5,h=>cases h;decide
  | k+6,h=>simp [nameL]at h
def digs(base:Int)(u:List UInt8):Option Int:=if u≠[]/\u.all (digV base)=true then some (valD base u) else none
def numS(b:List UInt8):Option Int:=
  match b with
  | c::t=>if c=35 then (match t with | x::u=>if x=120\/x=88 then digs 16 u else digs 10 (x::u) | []=>none) else none
  | []=>none
def zbu(b:List UInt8):Option Int:=match zji b with | some n=>some n | none=>numS b
theorem zjj{base:Int}{u:List UInt8}{n:Int}(h:digs base u=some n):u≠[]/\(∀ b∈u,digV base b=true)/\n=valD base u:=by
  unfold digs at h
  by_cases hc:u≠[]/\u.all (digV base)=true
  . rw[if_pos hc]at h
    exact⟨hc.1,List.all_eq_true.1 hc.2,by injection h with h;exact h.symm⟩
  . rw[if_neg hc]at h;cases h
theorem zoQ{base:Int}{u:List UInt8}(h1:u≠[])(h2:∀ b∈u,digV base b=true):digs base u=some (valD base u):=by
  unfold digs;rw[if_pos ⟨h1,List.all_eq_true.2 h2⟩]
theorem zrl{u:List UInt8}(h1:u≠[])(h2:∀ b∈u,digV 10 b=true):numS (35::u)=some (valD 10 u):=by
  cases u with
  | nil=>exact absurd rfl h1
  | cons x u=>
    have hx:=h2 x (by simp)
    have hx2:¬ (x=120\/x=88):=by
      rintro(e | e)<;>subst e<;>revert hx<;>decide
    show(if (35:UInt8)=35 then (if x=120\/x=88 then digs 16 u else digs 10 (x::u)) else none)=_
    rw[if_pos rfl,if_neg hx2]
    exact zoQ h1 h2
theorem zlO{x:UInt8}{u:List UInt8}(hx:x=120\/x=88)(h1:u≠[])(h2:∀ b∈u,digV 16 b=true):numS (35::x::u)=some (valD 16 u):=by
  show(if (35:UInt8)=35 then (if x=120\/x=88 then digs 16 u else digs 10 (x::u)) else none)=_
  rw[if_pos rfl,if_pos hx]
  exact zoQ h1 h2
theorem zjk{b:List UInt8}{n:Int}(h:numS b=some n):∃ (bg u:List UInt8) (base:Int),((bg,base)=([35],10)\/(bg,base)=([35,120],16)\/(bg,base)=([35,88],16))/\b=bg++ u/\u≠[]/\(∀ y∈u,digV base y=true)/\n=valD base u:=by
  unfold numS at h
  match b with
  | []=>cases h
  | c::t=>
    simp only at h
    by_cases hc:c=35
    . subst hc
      rw[if_pos rfl]at h
      match t with
      | []=>cases h
      | x::u=>
        simp only at h
        by_cases hx:x=120\/x=88
        . rw[if_pos hx]at h
          have hd:=zjj h
          rcases hx with rfl | rfl
          . exact⟨[35,120],u,16,.inr (.inl rfl),rfl,hd.1,hd.2⟩
          . exact⟨[35,88],u,16,.inr (.inr rfl),rfl,hd.1,hd.2⟩
        . rw[if_neg hx]at h
          have hd:=zjj h
          exact⟨[35],x::u,10,.inl rfl,rfl,hd.1,hd.2⟩
    . rw[if_neg hc]at h;cases h
theorem zmK(u:List UInt8):zji (35::u)=none:=by
  cases h:zji (35::u) with
  | none=>rfl
  | some n=>
    obtain⟨k,hk,hn⟩:=zex h
    match k,hn with
    | 0,h=>cases h
    | 1,h=>cases h
    | 2,h=>cases h
    | 3,h=>cases h
    | 4,h=>cases h
    | 5,h=>cases h
    | k+6,h=>simp [nameL]at h
theorem zjl{k:Nat}{nm:List UInt8}{c:Int}(h:nameL[k]?=some (nm,c)):zbu nm=some c:=by unfold zbu;rw[zrk h]
theorem zc7(u:List UInt8):zbu (35::u)=numS (35::u):=by unfold zbu;rw[zmK]
theorem zkv{b:List UInt8}{n:Int}(h:zbu b=some n):2<=b.length:=by
  unfold zbu at h
  cases hn:zji b with
  | some m=>
    obtain⟨k,_,hk⟩:=zex hn
    exact(zlN hk).2.1
  | none=>
    rw[hn]at h
    obtain⟨bg,u,base,hb,rfl,hu,_⟩:=zjk h
    have:=List.length_pos_iff.2 hu
    rw[List.length_append]
    rcases hb with hb | hb | hb<;>(injection hb with hb _;subst hb;simp only[List.length_cons,List.length_nil];omega)
def zcV(l:List UInt8):List UInt8:=l.takeWhile (· != 59)
theorem zrm(l:List UInt8):∀ b∈zcV l,(b != 59)=true:=by
  unfold zcV
  induction l with
  | nil=>intro b hb;cases hb
  | cons x l ih=>
    intro b hb
    rw[List.takeWhile_cons]at hb
    cases hx:x != 59 with
    | true=>rw[hx]at hb;simp only[if_true]at hb;rcases List.mem_cons.1 hb with rfl | hb;exact hx;exact ih b hb
    | false=>rw[hx]at hb;simp at hb
theorem zlP{b r:List UInt8}(h:∀ x∈b,(x != 59)=true):zcV (b++ 59::r)=b:=by
  unfold zcV
  rw[List.takeWhile_append_of_pos h]
  simp
theorem zkw{l:List UInt8}(h:(zcV l).length < l.length):∃ r,l=zcV l++ 59::r:=by
  induction l with
  | nil=>simp at h
  | cons x l ih=>
    unfold zcV at h ih ⊢
    rw[List.takeWhile_cons]at h ⊢
    cases hx:x != 59 with
    | true=>
      rw[hx]at h
      simp only[if_true,List.length_cons]at h ⊢
      obtain⟨r,hr⟩:=ih (by omega)
      exact⟨r,by rw[List.cons_append,<-hr]⟩
    | false=>
      have e:x=59:=by simpa using hx
      subst e
      exact⟨l,by simp⟩
def zcv(l:List UInt8):Option (Int × Nat):=
  match l with
  | c::t=>if c=38/\(zcV t).length < t.length then (zbu (zcV t)).map fun n=>(n,(zcV t).length+2) else none
  | []=>none
theorem zbW{c:UInt8}{t:List UInt8}(h:c≠38):zcv (c::t)=none:=by
  show(if c=38/\_ then _ else none)=none
  rw[if_neg (fun e=>h e.1)]
theorem zmL{t:List UInt8}(h:¬ (zcV t).length < t.length):zcv (38::t)=none:=by
  show(if (38:UInt8)=38/\(zcV t).length < t.length then _ else none)=none
  rw[if_neg (fun e=>h e.2)]
theorem zjm{t:List UInt8}(h:(zcV t).length < t.length):zcv (38::t)=(zbu (zcV t)).map fun n=>(n,(zcV t).length+2):=by
  show(if (38:UInt8)=38/\(zcV t).length < t.length then _ else none)=_
  rw[if_pos ⟨rfl,h⟩]
theorem zh8{b r:List UInt8}{n:Int}(hb:∀ x∈b,(x != 59)=true)(h:zbu b=some n):zcv (38::(b++ 59::r))=some (n,b.length+2):=by
  rw[zjm (by rw[zlP hb];simp),zlP hb,h]
  rfl
theorem zhe{l:List UInt8}{n:Int}{k:Nat}(h:zcv l=some (n,k)):∃ b r,l=38::(b++ 59::r)/\(∀ x∈b,(x != 59)=true)/\zbu b=some n/\k=b.length+2:=by
  match l with
  | []=>cases h
  | c::t=>
    by_cases hc:c=38
    . subst hc
      by_cases hl:(zcV t).length < t.length
      . rw[zjm hl]at h
        obtain⟨m,hm,e⟩:=Option.map_eq_some_iff.1 h
        injection e with e1 e2
        subst e1 e2
        obtain⟨r,hr⟩:=zkw hl
        exact⟨zcV t,r,by rw[<-hr],zrm t,hm,rfl⟩
      . rw[zmL hl]at h;cases h
    . rw[zbW hc]at h;cases h
theorem zlQ{l:List UInt8}{n:Int}{k:Nat}(h:zcv l=some (n,k)):4<=k/\k<=l.length:=by
  obtain⟨b,r,rfl,_,hs,rfl⟩:=zhe h
  have:=zkv hs
  simp
  omega
def zgM(l:List UInt8):ByteArray × Nat:=match zcv l with | some (n,k)=>(numB n,k) | none=>(⟨#[]⟩,0)
def zds(l:List UInt8):List UInt8 × Nat:=match zcv l with | some (n,k)=>((numB n).data.toList,k) | none=>(l.take 1,1)
theorem zey{l:List UInt8}{n:Int}{k:Nat}(h:zcv l=some (n,k)):zgM l=(numB n,k):=by unfold zgM;rw[h]
theorem zez{l:List UInt8}(h:zcv l=none):zgM l=(⟨#[]⟩,0):=by unfold zgM;rw[h]
theorem zeA{l:List UInt8}{n:Int}{k:Nat}(h:zcv l=some (n,k)):zds l=((numB n).data.toList,k):=by unfold zds;rw[h]
theorem zeB{l:List UInt8}(h:zcv l=none):zds l=(l.take 1,1):=by unfold zds;rw[h]
theorem zrn{l:List UInt8}(h:l≠[]):1<=(zds l).2/\(zds l).2<=l.length/\1<=(zds l).1.length/\(zds l).1.length<=(zds l).2/\(zds l).1.length<=4:=by
  have h0:0 < l.length:=List.length_pos_iff.2 h
  cases hr:zcv l with
  | none=>rw[zeB hr];simp only[List.length_take];omega
  | some p=>
    obtain⟨n,k⟩:=p
    have hb:=zlQ hr
    have h1:=zrh n
    have h2:=ztj n
    have hs:(numB n).data.toList.length=(numB n).size:=by rw[Array.length_toList];rfl
    rw[zeA hr]
    simp only[hs]
    omega
def nxE(l:List (UInt8 × Int)):List UInt8 × Nat:=zds (l.map (·.1))
theorem zjn{l:List (UInt8 × Int)}(h:l≠[]):1<=(nxE l).2/\(nxE l).2<=l.length/\1<=(nxE l).1.length/\(nxE l).1.length<=(nxE l).2/\(nxE l).1.length<=4:=by
  have:=zrn (l:=l.map (·.1)) (by simpa using h)
  unfold nxE
  simpa using this
def decE(l:List (UInt8 × Int)):List (UInt8 × Int):=
  if _h:l=[] then [] else putE (nxE l).1 (worT l (nxE l).2)++ decE (l.drop (nxE l).2)
termination_by l.length
decreasing_by (have:=zjn _h;have:0 < l.length:=List.length_pos_iff.2 _h;rw[List.length_drop];omega)
theorem zca:decE []=[]:=by rw[decE];rfl
theorem zcw{l:List (UInt8 × Int)}(h:l≠[]):decE l=putE (nxE l).1 (worT l (nxE l).2)++ decE (l.drop (nxE l).2):=by
  conv=>lhs;rw[decE,dif_neg h]
theorem zoR{p:List (UInt8 × Int)->Prop}(nil:p [])(next:∀ l,l≠[]->p (l.drop (nxE l).2)->p l)(l:List (UInt8 × Int)):p l:=by
  have h:∀ n,∀ l:List (UInt8 × Int),l.length<=n->p l:=by
    intro n
    induction n with
    | zero=>intro l hl;have e:l=[]:=List.eq_nil_of_length_eq_zero (by omega);subst e;exact nil
    | succ n ih=>
      intro l hl
      by_cases e:l=[]
      . subst e;exact nil
      . exact next l e (ih _ (by have:=zjn e;rw[List.length_drop];omega))
  exact h l.length l (Nat.le_refl _)
theorem zfv(l:List (UInt8 × Int)):(decE l).length<=l.length:=by
  induction l using zoR with
  | nil=>rw[zca];exact Nat.le_refl _
  | next l h ih=>have:=zjn h;rw[List.length_drop]at ih;rw[zcw h,List.length_append,zfq];omega
theorem InR.decE{l:List (UInt8 × Int)}(h:InR l):InR (mk.decE l):=by
  induction l using zoR with
  | nil=>rw[zca];exact h
  | next l hl ih=>
    rw[zcw hl]
    refine InR.append ?_ (ih (h.drop _))
    intro o ho
    rw[zfp]at ho
    rw[(List.mem_replicate.1 ho).2]
    exact zfQ (h.take _)
def letB(b:UInt8):Bool:=(decide (97<=b.toNat) && decide (b.toNat<=122)) || (decide (65<=b.toNat) && decide (b.toNat<=90))
def spcB(b:UInt8):Bool:=[9,10,12,32].contains b
def lowL(l:Ch):Ch:=l.map fun x=>(lowB x.1,x.2)
theorem zgf(l:Ch):(lowL l).length=l.length:=by unfold lowL;rw[List.length_map]
theorem zkx(a b:Ch):lowL (a++ b)=lowL a++ lowL b:=by unfold lowL;rw[List.map_append]
def zaY(st:Nat)(c:UInt8)(begun:Bool):Nat × Bool × Bool:=
  if st=1 then
    (if begun && (spcB c || (c == 47 || c == 62)) then (2,false,true) else if begun && c == 61 then (3,false,false) else (1,true,false))
  else if st=2 then (if spcB c then (2,false,false) else if c == 61 then (3,false,false) else (0,false,true))
  else if st=3 then (if spcB c then (3,false,false) else if c == 34 then (4,false,false) else if c == 39 then (5,false,false) else (6,false,true))
  else if st=4\/st=5 then (if (st=4/\c=34)\/(st=5/\c=39) then (0,false,false) else (st,true,false))
  else if st=6 then (if spcB c || c == 62 then (0,false,true) else (6,true,false))
  else (if c == 62 then (99,false,false) else if spcB c || c == 47 then (0,false,false) else (1,false,true))
def putT(l:List PA)(a:PA):List PA:=if l.any fun p=>nmB p == nmB a then l else l++ [a]
def zc8(l:List PA)(a:PA):List PA:=if a.1=[] then l else putT l (lowL a.1,decE a.2)
structure TkS where
  st:Nat
  nm:Ch
  vl:Ch
  al:List PA
def zc9(s:TkS)(c:UInt8 × Int)(n:Nat × Bool × Bool):TkS:=
  let nm:=if n.1=1/\s.st=0 then [] else s.nm
  let vl:=if n.1=1/\s.st=0 then [] else s.vl
  ⟨n.1,if n.2.1=true/\n.1=1 then nm++ [c] else nm,if n.2.1=true/\n.1≠1 then vl++ [c] else vl,if n.1=1/\s.st=0 then zc8 s.al (s.nm,s.vl) else s.al⟩
def zmM(s:TkS)(c:UInt8 × Int):Nat × Bool × Bool:=zaY s.st c.1 (!s.nm.isEmpty)
def runT(l:Ch):Nat->Nat->TkS->Option (Nat × TkS)
  | 0,_,_=>none
  | f+1,i,s=>
    match l[i]? with
    | none=>none
    | some c=>if (zmM s c).1=99 then some (i,s) else runT l f (if (zmM s c).2.2 then i else i+1) (zc9 s c (zmM s c))
structure PTok where
  kind:Nat
  name:Ch
  attrs:List PA
  close:Bool
  text:Ch
def zoS(l:Ch):Nat:=(l.takeWhile fun c=>!(spcB c.1) && (!(c.1 == 47) && !(c.1 == 62))).length
def zba(l:Ch):Nat:=if (l.map (·.1)).take 2=[60,47] then 2 else 1
def tagP(l:Ch):Option (PTok × Nat):=
  match l[zba l]? with
  | none=>none
  | some b=>
    if (l.map (·.1)).take 1=[60]/\letB b.1=true then
      match runT l (4 * l.length+9) (zba l+zoS (l.drop (zba l))) ⟨0,[],[],[]⟩ with
      | none=>none
      | some (j,s)=>some (⟨zba l,lowL ((l.drop (zba l)).take (zoS (l.drop (zba l)))),if zba l=1 then zc8 s.al (s.nm,s.vl) else [],decide (zba l=1) && ((l[j - 1]?).map (·.1) == some 47),[]⟩,j+1)
    else none
def zaR(out:List PTok)(l:Ch):List PTok:=
  if l=[] then out else
    match out.getLast? with
    | some x=>if x.kind=3 then out.dropLast++ [⟨3,[],[],false,x.text++ l⟩] else out++ [⟨3,[],[],false,l⟩]
    | none=>[⟨3,[],[],false,l⟩]
def zcW(l:Ch)(name:List UInt8):Bool:=
  match l[name.length+2]? with
  | none=>false
  | some c=>(spcB c.1 || (c.1 == 47 || c.1 == 62)) && ((lowL (l.take (name.length+2))).map (·.1) == [60,47]++ name)
def rawT(name:List UInt8):Ch->Nat
  | []=>0
  | c::l=>if zcW (c::l) name then 0 else rawT name l+1
def zcX(l:Ch)(skip:Nat)(e:List UInt8):Ch × Nat:=
  if zfj (l.map (·.1)) e (skip:Int) < 0 then (l.drop skip,l.length)
  else ((l.take (zfj (l.map (·.1)) e (skip:Int)).toNat).drop skip,(zfj (l.map (·.1)) e (skip:Int)).toNat+e.length)
def ltT(l:Ch):Nat:=(l.takeWhile fun c=>!(c.1 == 60)).length
def zao(l:Ch)(i:Nat):UInt8:=((l[i]?).map (·.1)).getD 0
def zfn(out:List PTok)(l:Ch):Option (List PTok × Ch):=
  if letB (zao l 1) || (zao l 1 == 47 && letB (zao l 2)) then
    match tagP l with
    | none=>none
    | some (t,k)=>
      if t.kind=1/\(t.name.map (·.1)=[115,99,114,105,112,116]\/t.name.map (·.1)=[115,116,121,108,101]) then
        some (zaR (out++ [t]) ((l.drop k).take (rawT (t.name.map (·.1)) (l.drop k))),(l.drop k).drop (rawT (t.name.map (·.1)) (l.drop k)))
      else some (out++ [t],l.drop k)
  else if zao l 1=47/\zao l 2=62 then some (out,l.drop 3)
  else if 3 < l.length/\zao l 1=33/\zao l 2=45/\zao l 3=45 then some (out++ [⟨4,[],[],false,(zcX l 4 [45,45,62]).1⟩],l.drop (zcX l 4 [45,45,62]).2)
  else if (zao l 1=47/\2 < l.length)\/zao l 1=33\/zao l 1=63 then some (out++ [⟨4,[],[],false,(zcX l 2 [62]).1⟩],l.drop (zcX l 2 [62]).2)
  else some (zaR out (l.take 1),l.drop 1)
def tokR:Nat->List PTok->Ch->List PTok
  | 0,out,_=>out
  | f+1,out,l=>
    if l=[] then out
    else if l.drop (ltT l)=[] then zaR out (decE (l.take (ltT l)))
    else match zfn (zaR out (decE (l.take (ltT l)))) (l.drop (ltT l)) with
      | none=>zaR out (decE (l.take (ltT l)))
      | some (out',l')=>tokR f out' l'
def zky(l:Ch):List PTok:=tokR (l.length+1) [] l
theorem zd7{l:List (UInt8 × Int)}{b:UInt8}{o:Int}(hl:l[0]?=some (b,o))(ho:0<=o)(hr:zcv (l.map (·.1))=none):decE l=[(b,o)]++ decE (l.drop 1):=by
  cases l with
  | nil=>cases hl
  | cons x r=>
    injection hl with hl
    subst hl
    rw[zcw (by simp)]
    have h:nxE ((b,o)::r)=([b],1):=zeB hr
    rw[h]
    show putE [b] (worT ((b,o)::r) (0+1))++ _=_
    rw[zfR (l:=(b,o)::r) (n:=0) (c:=(b,o)) rfl,znX,show max (0:Int) (b,o).2=o from Int.max_eq_right ho]
    rfl
theorem zlR{l:List (UInt8 × Int)}{n:Int}{k:Nat}(hr:zcv (l.map (·.1))=some (n,k)):decE l=putE (numB n).data.toList (zaH ((l.take k).map (·.2)))++ decE (l.drop k):=by
  have hne:l≠[]:=by
    intro e
    subst e
    cases hr
  rw[zcw hne]
  have h:nxE l=((numB n).data.toList,k):=zeA hr
  rw[h]
  rfl
theorem zjo(p:List UInt8)(o:Int)(r:List (UInt8 × Int)):(putE p o++ r).map (·.1)=p++ r.map (·.1):=by rw[List.map_append,zhR]
theorem zcj{b:List UInt8}{n o:Int}{c:UInt8}(r:List (UInt8 × Int))(ho:0<=o)(hb:∀ x∈b,(x != 59)=true)(hs:zbu b=some n)(hc:(numB n).data.toList=[c]):decE (putE (38::(b++ [59])) o++ r)=(c,o)::decE r:=by
  have hl:(putE (38::(b++ [59])) o).length=b.length+2:=by rw[zfq];simp
  rw[zlR (n:=n) (k:=b.length+2) (by rw[zjo,List.cons_append,List.append_assoc];exact zh8 hb hs)]
  rw[List.take_left' hl,List.drop_left' hl,hc,zfp,zms ho _ (by simp)]
  rfl
theorem zro{v:Bool}{l:List (UInt8 × Int)}(h:InR l):decE (escL v l)=l:=by
  induction l with
  | nil=>exact zca
  | cons x l ih=>
    obtain⟨b,o⟩:=x
    have ho:0<=o:=(h o (by simp)).1
    have hr:InR l:=InR.drop h 1
    rw[zc0]
    have key:decE (escC v (b,o)++ escL v l)=(b,o)::decE (escL v l):=by
      unfold escC escB
      simp only
      split
      . rename_i e;subst e
        exact zcj (b:=[97,109,112]) (n:=38) _ ho (by decide) (by decide+kernel) (by decide+kernel)
      . rename_i h38
        split
        . rename_i e;subst e
          exact zcj (b:=[108,116]) (n:=60) _ ho (by decide) (by decide+kernel) (by decide+kernel)
        . split
          . rename_i e;subst e
            exact zcj (b:=[103,116]) (n:=62) _ ho (by decide) (by decide+kernel) (by decide+kernel)
          . split
            . rename_i e;subst e
              exact zcj (b:=[35,49,51]) (n:=13) _ ho (by decide) (by decide+kernel) (by decide+kernel)
            . split
              . rename_i e
                obtain⟨rfl,_⟩:=e
                exact zcj (b:=[113,117,111,116]) (n:=34) _ ho (by decide) (by decide+kernel) (by decide+kernel)
              . have h2:=zd7 (l:=(b,o)::escL v l) (b:=b) (o:=o) rfl ho (by rw[List.map_cons];exact zbW h38)
                exact h2
    rw[key,ih hr]
def zuA(base:Int)(l:List UInt8)(v d:Value):Prop:=
  ∃ k:Nat,k<=l.length/\v=.int .i64 (valC 1114112 base (l.take k))/\d=.int .i64 (k:Int)/\∀ y∈l.take k,digV base y=true
theorem ztk{base:Int}(hb:1<=base){l:List UInt8}(h:∀ b∈l,digV base b=true):0<=valC 1114112 base l/\valC 1114112 base l<=1114112:=by
  have:=zoP (top:=1114112) (by omega) hb l h
  omega
theorem zhf(s:ByteArray)(base:Int)(hb:base=10\/base=16)(hs:s.size<=4294967296)(w:World) :
    Calls Tryz.prog 195 #[.string s,.int .i64 base] w fun e w'=>e=.returned (.tuple #[.int .i64 (valC 1114112 base (s.data.toList.take (zbd s.data.toList (digV base)))),.int .i64 (zbd s.data.toList (digV base))])/\w=w':=by
  have hsl:s.data.toList.length=s.size:=by rw[Array.length_toList];rfl
  have HSL:=Lib.hid hsl
  clear hsl
  have hb1:1<=base:=by omega
  have hb2:base<=16:=by omega
  have HB1:=Lib.hid hb1
  have HB2:=Lib.hid hb2
  clear hb
  go_enter Tryz.func195,Tryz.ntmps195
  go_wp2_with fail
  go_loop [4,5] (zuA base s.data.toList) (fun _ i=>s.size - (intOf i).toNat)
  case atStart=>exact⟨0,Nat.zero_le _,rfl,rfl,by simp⟩
  case round=>
    obtain⟨k,hk,rfl,rfl,hall⟩:=hrel
    rw[HSL.out]at hk
    have hvb:=ztk HB1.out hall
    have HALL:=Lib.hid hall
    clear hall
    have hk0:(0:Int)<=(k:Int):=Int.natCast_nonneg _
    by_cases hlt:k < s.size
    . have hk1:(k:Int) < (s.size:Int):=by omega
      have HSK:Hid (s.data.toList[k]?=some (s[k]'hlt)):=by
        show _=_
        rw[List.getElem?_eq_getElem (by rw[HSL.out];exact hlt)]
        rfl
      have HNX:Hid (s.data.toList.take (k+1)=s.data.toList.take k++ [s[k]'hlt]):=zC HSK.out
      generalize hsk:s[k]'hlt=x at *
      have hxb:=zsY x
      cases hq:digV base x with
      | true=>
        have hv:=zoO hq
        have HV:Hid (valC 1114112 base (s.data.toList.take (k+1))=min (valC 1114112 base (s.data.toList.take k) * base+hexB x) 1114112):=by show _=_;rw[HNX.out,zjh]
        have HA2:Hid (∀ y∈s.data.toList.take (k+1),digV base y=true):=by
          intro y hy
          rw[HNX.out]at hy
          rcases List.mem_append.1 hy with hy | hy
          . exact HALL.out y hy
          . simp at hy;subst hy;exact hq
        generalize valC 1114112 base (s.data.toList.take k)=n at *
        obtain⟨hn0,hn1⟩:=hvb
        have hm0:0<=n * base:=Int.mul_nonneg hn0 (by omega)
        have hm1:n * base<=1114112 * base:=Int.mul_le_mul_of_nonneg_right hn1 (by omega)
        have hm2:n * base<=17825792:=by omega
        clear hm1 hq
        obtain⟨hv0,hv1⟩:=hv
        have hv2:¬ hexB x < 0:=by omega
        have hv3:¬ base<=hexB x:=by omega
        go_wp2_with fail
        refine(znZ x _).mono ?_
        rintro e w' ⟨rfl,rfl⟩
        generalize hexB x=v at *
        go_wp2_with fail
        go_round
        case rel=>exact⟨k+1,by rw[HSL.out];omega,by rw[HV.out],by go_num,HA2.out⟩
        case measure=>simp [intOf];omega
      | false=>
        have HR:Hid (zbd s.data.toList (digV base)=k):=zel HALL.out HSK.out hq
        have hv:hexB x < 0\/base<=hexB x:=by
          unfold digV at hq
          rcases Int.lt_or_le (hexB x) 0 with h | h
          . exact .inl h
          . right
            rw[decide_eq_true h,Bool.true_and,decide_eq_false_iff_not]at hq
            omega
        generalize hvc:valC 1114112 base (s.data.toList.take k)=n at *
        have HVC:=Lib.hid hvc
        clear hvc hq
        go_wp2_with fail
        refine(znZ x _).mono ?_
        rintro e w' ⟨rfl,rfl⟩
        generalize hexB x=v at *
        rcases hv with hv | hv
        . go_wp2_with fail
          go_ret2
          exact⟨by rw[HR.out,HVC.out];rfl,rfl⟩
        . by_cases hv0:v < 0
          . omega
          . go_wp2_with fail
            go_ret2
            exact⟨by rw[HR.out,HVC.out];rfl,rfl⟩
    . obtain rfl:k=s.size:=by omega
      have HR:Hid (zbd s.data.toList (digV base)=s.size):=by
        show _=_
        rw[<-HSL.out]
        refine ziF (fun y hy=>HALL.out y ?_)
        rw[List.take_of_length_le (by rw[HSL.out];exact Nat.le_refl _)]
        exact hy
      generalize hvc:valC 1114112 base (s.data.toList.take s.size)=n at *
      have HVC:=Lib.hid hvc
      clear hvc
      go_wp2_with fail
      go_ret2
      exact⟨by rw[HR.out,HVC.out];rfl,rfl⟩
def nmC(inner nm:List UInt8):Bool:=inner.take (nm.length+1) == nm++ [59]
def zgN:List (List UInt8 × Int):=[([35],10),([35,120],16),([35,88],16)]
def rsF(inner bg:List UInt8):List UInt8:=inner.drop bg.length
def dgF(inner bg:List UInt8)(base:Int):Nat:=zbd (rsF inner bg) (digV base)
def fmC(inner bg:List UInt8)(base:Int):Bool:=(inner.take bg.length == bg) && decide (0 < dgF inner bg base) && (((rsF inner bg).drop (dgF inner bg base)).take 1 == [59])
theorem zlS(l:List UInt8)(p:UInt8->Bool):zbd l p<=l.length:=by
  unfold zbd
  conv=>rhs;rw[<-List.takeWhile_append_dropWhile (p:=p) (l:=l)]
  rw[List.length_append]
  omega
theorem zmN(l:List UInt8)(p:UInt8->Bool):∀ b∈l.take (zbd l p),p b=true:=by
  unfold zbd
  induction l with
  | nil=>intro b hb;cases hb
  | cons x l ih=>
    intro b hb
    rw[List.takeWhile_cons]at hb
    cases hx:p x with
    | true=>
      rw[hx]at hb
      simp only[if_true,List.length_cons,List.take_succ_cons]at hb
      rcases List.mem_cons.1 hb with rfl | hb
      . exact hx
      . exact ih b hb
    | false=>rw[hx]at hb;simp at hb
theorem zjp(base:Int):digV base 59=false:=by
  unfold digV
  rw[show hexB 59=-1 from by decide]
  rfl
theorem ztl{base:Int}{b:UInt8}(h:digV base b=true):(b != 59)=true:=by
  rw[bne_iff_ne]
  intro e
  subst e
  rw[zjp]at h
  cases h
theorem zrp{l:List UInt8}(h:(l.take 1 == [59])=true):∃ r,l=59::r:=by
  cases l with
  | nil=>simp at h
  | cons x r=>simp at h;subst h;exact⟨r,rfl⟩
theorem zrq{inner nm:List UInt8}{k:Nat}{c:Int}(hk:nameL[k]?=some (nm,c))(h:nmC inner nm=true):zcv (38::inner)=some (c,nm.length+2):=by
  unfold nmC at h
  have e:inner=nm++ 59::inner.drop (nm.length+1):=by
    conv=>lhs;rw[<-List.take_append_drop (nm.length+1) inner]
    rw[beq_iff_eq.1 h,List.append_assoc]
    rfl
  rw[e]
  exact zh8 (zlN hk).1 (zjl hk)
theorem zlT{k:Nat}{bg:List UInt8}{base:Int}(hk:zgN[k]?=some (bg,base)):(∀ x∈bg,(x != 59)=true)/\(base=10\/base=16)/\bg.length<=2:=by
  match k,hk with
  | 0,h=>cases h;decide
  | 1,h=>cases h;decide
  | 2,h=>cases h;decide
  | k+3,h=>simp [zgN]at h
theorem zjq{k:Nat}{bg u:List UInt8}{base:Int}(hk:zgN[k]?=some (bg,base))(h1:u≠[])(h2:∀ b∈u,digV base b=true):zbu (bg++ u)=some (valD base u):=by
  match k,hk with
  | 0,h=>cases h;exact(zc7 u).trans (zrl h1 h2)
  | 1,h=>cases h;exact(zc7 (120::u)).trans (zlO (.inl rfl) h1 h2)
  | 2,h=>cases h;exact(zc7 (88::u)).trans (zlO (.inr rfl) h1 h2)
  | k+3,h=>simp [zgN]at h
theorem zrr{inner bg:List UInt8}{k:Nat}{base:Int}(hk:zgN[k]?=some (bg,base))(h:fmC inner bg base=true) :
    zcv (38::inner)=some (valD base ((rsF inner bg).take (dgF inner bg base)),bg.length+dgF inner bg base+2)/\(∀ b∈(rsF inner bg).take (dgF inner bg base),digV base b=true):=by
  unfold fmC at h
  simp only[Bool.and_eq_true,decide_eq_true_eq]at h
  obtain⟨⟨h1,h2⟩,h3⟩:=h
  have hd:=zmN (rsF inner bg) (digV base)
  have hle:=zlS (rsF inner bg) (digV base)
  have e1:inner=bg++ rsF inner bg:=by
    conv=>lhs;rw[<-List.take_append_drop bg.length inner]
    rw[beq_iff_eq.1 h1]
    rfl
  obtain⟨r,hr⟩:=zrp h3
  have e2:rsF inner bg=(rsF inner bg).take (dgF inner bg base)++ 59::r:=by
    conv=>lhs;rw[<-List.take_append_drop (dgF inner bg base) (rsF inner bg)]
    rw[hr]
  unfold dgF at h2 e2 ⊢
  refine⟨?_,hd⟩
  clear h1 h3 hr
  generalize rsF inner bg=rs at *
  have hul:(rs.take (zbd rs (digV base))).length=zbd rs (digV base):=by rw[List.length_take];omega
  have hne:rs.take (zbd rs (digV base))≠[]:=by intro e;rw[e]at hul;simp at hul;omega
  have hno:∀ x∈bg++ rs.take (zbd rs (digV base)),(x != 59)=true:=by
    intro x hx
    rcases List.mem_append.1 hx with hx | hx
    . exact(zlT hk).1 x hx
    . exact ztl (hd x hx)
  have hR:=zh8 (r:=r) hno (zjq hk hne hd)
  rw[List.append_assoc,<-e2,<-e1,List.length_append,hul]at hR
  exact hR
theorem zmO{inner:List UInt8}(h1:∀ (k:Nat) (nm:List UInt8) (c:Int),nameL[k]?=some (nm,c)->nmC inner nm=false)(h2:∀ (k:Nat) (bg:List UInt8) (base:Int),zgN[k]?=some (bg,base)->fmC inner bg base=false):zcv (38::inner)=none:=by
  cases hr:zcv (38::inner) with
  | none=>rfl
  | some p=>
    exfalso
    obtain⟨n,z⟩:=p
    obtain⟨b,r,e,hno,hs,_⟩:=zhe hr
    injection e with _ e
    cases hn:zji b with
    | some m=>
      obtain⟨k,_,hk⟩:=zex hn
      have h:=h1 k b m hk
      unfold nmC at h
      rw[beq_eq_false_iff_ne]at h
      refine h ?_
      rw[e,show b++ 59::r=(b++ [59])++ r by simp,List.take_left' (by simp)]
    | none=>
      unfold zbu at hs
      rw[hn]at hs
      obtain⟨bg,u,base,hb,eb,hu,hd,_⟩:=zjk hs
      have hk:∃ k:Nat,zgN[k]?=some (bg,base):=by
        rcases hb with hb | hb | hb
        . exact⟨0,by rw[hb];rfl⟩
        . exact⟨1,by rw[hb];rfl⟩
        . exact⟨2,by rw[hb];rfl⟩
      obtain⟨k,hk⟩:=hk
      have h:=h2 k bg base hk
      have ei:inner=bg++ (u++ 59::r):=by rw[e,eb,List.append_assoc]
      have e3:rsF inner bg=u++ 59::r:=by unfold rsF;rw[ei,List.drop_left' rfl]
      have e4:dgF inner bg base=u.length:=by
        unfold dgF
        rw[e3]
        refine zel (x:=59) (fun y hy=>?_) ?_ (zjp base)
        . rw[List.take_left' rfl]at hy;exact hd y hy
        . rw[List.getElem?_append_right (Nat.le_refl _)];simp
      unfold fmC at h
      rw[e4,e3,List.drop_left' rfl,ei,List.take_left' rfl,beq_self_eq_true,decide_eq_true (List.length_pos_iff.2 hu)]at h
      simp at h
def zgg:Array Value:=#[.string ⟨#[97,109,112]⟩,.int .i64 38,.string ⟨#[108,116]⟩,.int .i64 60,.string ⟨#[103,116]⟩,.int .i64 62,.string ⟨#[113,117,111,116]⟩,.int .i64 34,.string ⟨#[97,112,111,115]⟩,.int .i64 39,.string ⟨#[110,98,115,112]⟩,.int .i64 160]
def zjr:Array Value:=#[.string ⟨#[35]⟩,.int .i64 10,.string ⟨#[35,120]⟩,.int .i64 16,.string ⟨#[35,88]⟩,.int .i64 16]
theorem zgO(w:World):Calls Tryz.prog 192 #[] w fun e w'=>e=.returned (.agg zgg)/\Below w.heap.size w w':=by
  go_enter Tryz.func192,Tryz.ntmps192
  go_wp2_with fail
  exact bodyPost_ret (results_cell_row Tryz.results192 _ _ w.heap.size 195 zgg (0,0) _ rfl (Whole.made w _ zgg) Tryz.underlying195 rfl (by as_aux_lemma=>kernel_rfl)) rfl ⟨rfl,(Below.refl _ _).alloc (Nat.le_refl _) _⟩
theorem zoT(w:World):Calls Tryz.prog 194 #[] w fun e w'=>e=.returned (.agg zjr)/\Below w.heap.size w w':=by
  go_enter Tryz.func194,Tryz.ntmps194
  go_wp2_with fail
  exact bodyPost_ret (results_cell_row Tryz.results194 _ _ w.heap.size 200 zjr (0,0) _ rfl (Whole.made w _ zjr) Tryz.underlying200 rfl (by as_aux_lemma=>kernel_rfl)) rfl ⟨rfl,(Below.refl _ _).alloc (Nat.le_refl _) _⟩
theorem zuB(w:World):(Instr.index 195 (.agg zgg) (.int .i64 0)).run Tryz.prog w=.ok (.agg #[.string ⟨#[97,109,112]⟩,.int .i64 38]) w:=by kernel_rfl
theorem zuC(w:World):(Instr.index 195 (.agg zgg) (.int .i64 1)).run Tryz.prog w=.ok (.agg #[.string ⟨#[108,116]⟩,.int .i64 60]) w:=by kernel_rfl
theorem zuD(w:World):(Instr.index 195 (.agg zgg) (.int .i64 2)).run Tryz.prog w=.ok (.agg #[.string ⟨#[103,116]⟩,.int .i64 62]) w:=by kernel_rfl
theorem zuE(w:World):(Instr.index 195 (.agg zgg) (.int .i64 3)).run Tryz.prog w=.ok (.agg #[.string ⟨#[113,117,111,116]⟩,.int .i64 34]) w:=by kernel_rfl
theorem zuF(w:World):(Instr.index 195 (.agg zgg) (.int .i64 4)).run Tryz.prog w=.ok (.agg #[.string ⟨#[97,112,111,115]⟩,.int .i64 39]) w:=by kernel_rfl
theorem zuG(w:World):(Instr.index 195 (.agg zgg) (.int .i64 5)).run Tryz.prog w=.ok (.agg #[.string ⟨#[110,98,115,112]⟩,.int .i64 160]) w:=by kernel_rfl
theorem zuH(w:World):(Instr.index 200 (.agg zjr) (.int .i64 0)).run Tryz.prog w=.ok (.agg #[.string ⟨#[35]⟩,.int .i64 10]) w:=by kernel_rfl
theorem zuI(w:World):(Instr.index 200 (.agg zjr) (.int .i64 1)).run Tryz.prog w=.ok (.agg #[.string ⟨#[35,120]⟩,.int .i64 16]) w:=by kernel_rfl
theorem zuJ(w:World):(Instr.index 200 (.agg zjr) (.int .i64 2)).run Tryz.prog w=.ok (.agg #[.string ⟨#[35,88]⟩,.int .i64 16]) w:=by kernel_rfl
theorem ztm(k:Nat)(h:k < 6):∃ (nb:ByteArray) (c:Int),nameL[k]?=some (nb.data.toList,c)/\nb.size<=4/\∀ w:World,(Instr.index 195 (.agg zgg) (.int .i64 (k:Int))).run Tryz.prog w=.ok (.agg #[.string nb,.int .i64 c]) w:=by
  obtain rfl | rfl | rfl | rfl | rfl | rfl:k=0\/k=1\/k=2\/k=3\/k=4\/k=5:=by omega
  . exact⟨_,_,rfl,by decide,zuB⟩
  . exact⟨_,_,rfl,by decide,zuC⟩
  . exact⟨_,_,rfl,by decide,zuD⟩
  . exact⟨_,_,rfl,by decide,zuE⟩
  . exact⟨_,_,rfl,by decide,zuF⟩
  . exact⟨_,_,rfl,by decide,zuG⟩
theorem ztn(k:Nat)(h:k < 3):∃ (nb:ByteArray) (c:Int),zgN[k]?=some (nb.data.toList,c)/\nb.size<=2/\∀ w:World,(Instr.index 200 (.agg zjr) (.int .i64 (k:Int))).run Tryz.prog w=.ok (.agg #[.string nb,.int .i64 c]) w:=by
  obtain rfl | rfl | rfl:k=0\/k=1\/k=2:=by omega
  . exact⟨_,_,rfl,by decide,zuH⟩
  . exact⟨_,_,rfl,by decide,zuI⟩
  . exact⟨_,_,rfl,by decide,zuJ⟩
end Go.Proofs.YtddgabjhligeeaaGreat.mk
