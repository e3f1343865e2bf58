import Derived.Test.YtddgabjhligeeaaGreatJnAH
import Derived.Lib.IndexMore
import Derived.Test.YtddgabjhligeeaaGreatJnU
namespace Go.Proofs.YtddgabjhligeeaaGreat.mk
open Go.RowKit
theorem zgT{α:Type}(p:α->Bool)(l:List α):(l.takeWhile p).length<=l.length:=(List.takeWhile_sublist p).length_le
theorem zlb(l:Ch):ltT l<=l.length:=zgT _ l
theorem zfK(name:List UInt8)(l:Ch):rawT name l<=l.length:=by
  induction l with
  | nil=>exact Nat.le_refl _
  | cons c l ih=>
    unfold rawT
    split
    . exact Nat.zero_le _
    . rw[List.length_cons];omega
theorem ziS(l:Ch):1<=zaN l/\zaN l<=2:=by unfold zaN;split<;>omega
theorem zoO{l:Ch}:∀ (f i:Nat) (s:TkS) {j:Nat} {s':TkS},runT l f i s=some (j,s')->i<=j/\j < l.length:=by
  intro f
  induction f with
  | zero=>intro i s j s' h;unfold runT at h;cases h
  | succ f ih=>
    intro i s j s' h
    unfold runT at h
    cases hc:l[i]? with
    | none=>rw[hc]at h;cases h
    | some c=>
      rw[hc]at h
      simp only at h
      split at h
      . injection h with h
        injection h with h1 h2
        subst h1
        exact⟨Nat.le_refl _,(List.getElem?_eq_some_iff.1 hc).1⟩
      . have:=ih _ _ h
        refine⟨?_,this.2⟩
        have h1:=this.1
        split at h1<;>omega
theorem zlc{l:Ch}{t:PTok}{k:Nat}(h:tagP l=some (t,k)):2<=k/\k<=l.length:=by
  unfold tagP at h
  have hf:=ziS l
  cases hb:l[zaN l]? with
  | none=>rw[hb]at h;cases h
  | some b=>
    rw[hb]at h
    simp only at h
    split at h
    . cases hr:runT l (4 * l.length+9) (zaN l+zk9 (l.drop (zaN l))) ⟨0,[],[],[]⟩ with
      | none=>rw[hr]at h;cases h
      | some p=>
        obtain⟨j,s⟩:=p
        rw[hr]at h
        injection h with h
        injection h with _ h
        have:=zoO _ _ _ hr
        omega
    . cases h
theorem ze5{l p:List UInt8}{k:Nat}(hk:k<=l.length)(h:¬ zdI l p (k:Int) < 0):k<=(zdI l p (k:Int)).toNat/\(zdI l p (k:Int)).toNat+p.length<=l.length:=by
  have ha:atN l.length (k:Int)=k:=by unfold atN;omega
  unfold zdI at *
  rw[ha]at h ⊢
  rcases Lib.index_spec (l.drop k) p with ⟨h1,_⟩ | ⟨i,h1,h2,h3,_⟩
  . rw[h1,if_pos (by decide)]at h
    exact absurd (by decide) h
  . rw[h1,if_neg (by omega)]
    rw[List.length_drop]at h2
    have hr:i+p.length<=(l.drop k).length:=by
      rcases Lib.occAt_room h3 with h4 | h4
      . exact h4
      . subst h4;rw[List.length_drop];simpa using h2
    rw[List.length_drop]at hr
    omega
theorem zct{l:Ch}{k:Nat}{e:List UInt8}(hk:k<=l.length):(zb9 l k e).2<=l.length/\k<=(zb9 l k e).2:=by
  unfold zb9
  by_cases h:zdI (l.map (·.1)) e (k:Int) < 0
  . rw[if_pos h];exact⟨Nat.le_refl _,hk⟩
  . rw[if_neg h]
    have:=ze5 (by rw[List.length_map];exact hk) h
    rw[List.length_map]at this
    show(_:Nat)<=_/\_<=(_:Nat)
    dsimp only
    omega
def isA(p:List UInt8)(l:Ch):Bool:=(l.map (·.1)).take p.length == p
def zr(p:UInt8->Bool)(l:Ch):Ch:=l.takeWhile fun c=>!(p c.1)
def zH(p:UInt8->Bool)(l:Ch):Ch:=l.dropWhile fun c=>!(p c.1)
def zo(p:UInt8->Bool)(l:Ch):Ch:=l.dropWhile fun c=>p c.1
def spsB(b:UInt8):Bool:=[9,10,12,32,47].contains b
def endT(b:UInt8):Bool:=[9,10,12,32,47,62].contains b
def endN(b:UInt8):Bool:=[9,10,12,32,47,62,61].contains b
def endV(b:UInt8):Bool:=[9,10,12,32,62].contains b
theorem zoP(b:UInt8):isA [b] []=false:=rfl
theorem zah(b:UInt8)(c:UInt8 × Int)(l:Ch):isA [b] (c::l)=(c.1 == b):=by
  show(([c.1]:List UInt8) == [b])=_
  rw[Bool.eq_iff_iff]
  simp
theorem zaB(p:UInt8->Bool)(l:Ch):zr p l++ zH p l=l:=List.takeWhile_append_dropWhile
theorem zdj(p:UInt8->Bool)(l:Ch):(zH p l).length<=l.length:=(List.dropWhile_suffix _).length_le
theorem zaI(p:UInt8->Bool)(l:Ch):(zo p l).length<=l.length:=(List.dropWhile_suffix _).length_le
def qVal(l:Ch):Ch × Ch:=
  if isA [34] l then (zr (· == 34) l.tail,(zH (· == 34) l.tail).tail)
  else if isA [39] l then (zr (· == 39) l.tail,(zH (· == 39) l.tail).tail)
  else (zr endV l,zH endV l)
def zW(c:UInt8 × Int)(l:Ch):PA × Ch:=
  if isA [61] (zo spcB (zH endN l)) then ((c::zr endN l,(qVal (zo spcB (zo spcB (zH endN l)).tail)).1),(qVal (zo spcB (zo spcB (zH endN l)).tail)).2)
  else ((c::zr endN l,[]),zo spcB (zH endN l))
theorem zoQ(l:Ch):(qVal l).2.length<=l.length:=by
  unfold qVal
  split
  . have:=zdj (· == 34) l.tail;simp only[List.length_tail]at *;omega
  . split
    . have:=zdj (· == 39) l.tail;simp only[List.length_tail]at *;omega
    . exact zdj _ _
theorem zcu(c:UInt8 × Int)(l:Ch):(zW c l).2.length<=l.length:=by
  have h1:=zdj endN l
  have h2:=zaI spcB (zH endN l)
  unfold zW
  split
  . have h3:=zoQ (zo spcB (zo spcB (zH endN l)).tail)
    have h4:=zaI spcB (zo spcB (zH endN l)).tail
    rw[List.length_tail]at h4
    show(qVal _).2.length<=_
    omega
  . show(zo spcB (zH endN l)).length<=_
    omega
def zE(l:Ch):List PA × Ch:=
  match l with
  | []=>([],[])
  | c::l'=>if c.1=62 then ([],c::l') else ((zW c l').1::(zE (zo spsB (zW c l').2)).1,(zE (zo spsB (zW c l').2)).2)
termination_by l.length
decreasing_by
  all_goals
    have h1:=zaI spsB (zW c l').2
    have h2:=zcu c l'
    rw[List.length_cons]
    omega
theorem zaM:zE []=([],[]):=by rw[zE]
theorem za1{c:UInt8 × Int}{l:Ch}(h:c.1=62):zE (c::l)=([],c::l):=by rw[zE,if_pos h]
theorem zaJ{c:UInt8 × Int}{l:Ch}(h:¬ c.1=62):zE (c::l)=((zW c l).1::(zE (zo spsB (zW c l).2)).1,(zE (zo spsB (zW c l).2)).2):=by
  conv=>lhs;rw[zE]
  rw[if_neg h]
theorem zbO{p:Ch->Prop}(nil:p [])(cons:∀ (c:UInt8 × Int) (l:Ch),(¬ c.1=62->p (zo spsB (zW c l).2))->p (c::l))(l:Ch):p l:=by
  have h:∀ n,∀ l:Ch,l.length<=n->p l:=by
    intro n
    induction n with
    | zero=>intro l hl;have e:l=[]:=List.eq_nil_of_length_eq_zero (by omega);subst e;exact nil
    | succ n ih=>
      intro l hl
      cases l with
      | nil=>exact nil
      | cons c l=>exact cons c l fun _=>ih _ (by have h1:=zaI spsB (zW c l).2;have h2:=zcu c l;rw[List.length_cons]at hl;omega)
  exact h l.length l (Nat.le_refl _)
theorem zgU(l:Ch):(zE l).2.length<=l.length/\(zE l).1.length<=l.length:=by
  induction l using zbO with
  | nil=>rw[zaM];exact⟨Nat.le_refl _,Nat.le_refl _⟩
  | cons c l ih=>
    by_cases h:c.1=62
    . rw[za1 h];exact⟨Nat.le_refl _,Nat.zero_le _⟩
    . have:=ih h
      have h1:=zaI spsB (zW c l).2
      have h2:=zcu c l
      rw[zaJ h,List.length_cons]
      refine⟨?_,?_⟩
      . show(zE _).2.length<=_;omega
      . show((zW c l).1::_).length<=_
        rw[List.length_cons];omega
def zcJ(a:PA):PA:=(lowL a.1,decE a.2)
def tagQ(m:Ch):Option (PTok × Ch):=
  if (zE (zo spsB (zH endT (zo (· == 47) m.tail)))).2=[] then none
  else some (if isA [47] m.tail then ⟨2,lowL (zr endT (zo (· == 47) m.tail)),[],false,[]⟩
    else ⟨1,lowL (zr endT (zo (· == 47) m.tail)),zag ((zE (zo spsB (zH endT (zo (· == 47) m.tail)))).1.map zcJ),(m[m.length - (zE (zo spsB (zH endT (zo (· == 47) m.tail)))).2.length - 1]?).map (·.1) == some 47,[]⟩,
    (zE (zo spsB (zH endT (zo (· == 47) m.tail)))).2.tail)
def zaf(m:Ch):Bool:=isA [60] m && (match (if isA [47] m.tail then m.tail.tail else m.tail)with | []=>false | c::_=>letB c.1)
theorem zld(L:List PA)(k:Nat)(hk:k<=L.length):zcd (zdL L) L k=(L.take k).foldl putT []:=by
  induction k with
  | zero=>rfl
  | succ k ih=>
    have hx:L[k]?=some (L[k]'(by omega)):=List.getElem?_eq_getElem _
    generalize L[k]'(by omega)=x at hx
    rw[zc6 hx,zw hx,List.foldl_append,<-ih (by omega)]
    show _=putT (zcd (zdL L) L k) x
    have hg:=zgz L (nmB x) k (by omega)
    have hp:zdL L k=(zae L (nmB x) == k):=zkw hx
    have hle:=zd7 hx rfl
    unfold putT
    by_cases h:zae L (nmB x) < k
    . rw[if_pos h]at hg
      obtain⟨y,hy,hyn⟩:=zbK (L:=L) (nm:=nmB x) (by have:=(List.getElem?_eq_some_iff.1 hx).1;omega)
      have hgy:getA (zcd (zdL L) L k) (nmB x)=some y:=by rw[hg];exact hy
      have hm:y∈zcd (zdL L) L k:=List.mem_of_getElem? hgy
      rw[if_pos (List.any_eq_true.2 ⟨y,hm,by rw[hyn];exact beq_self_eq_true _⟩),hp,beq_eq_false_iff_ne.2 (by omega),if_neg (by simp),List.append_nil]
    . rw[if_neg h]at hg
      rw[hp,beq_iff_eq.2 (by omega),if_pos rfl,if_neg]
      intro ha
      obtain⟨y,hy,hyn⟩:=List.any_eq_true.1 ha
      obtain⟨j,hj⟩:=List.mem_iff_getElem?.1 hy
      exact zd8 hg j y hj (beq_iff_eq.1 hyn)
theorem zjC(L:List PA):zag L=L.foldl putT []:=by
  unfold zag sel
  rw[zld L _ (Nat.le_refl _),List.take_length]
theorem zjD(us:List PA)(h:∀ a∈us,a.1≠[]):∀ al,us.foldl zci al=(us.map zcJ).foldl putT al:=by
  induction us with
  | nil=>intro al;rfl
  | cons a us ih=>
    intro al
    rw[List.foldl_cons,List.map_cons,List.foldl_cons,ih (fun x hx=>h x (List.mem_cons_of_mem _ hx))]
    congr 1
    unfold zci
    rw[if_neg (h a (List.mem_cons_self ..))]
    rfl
theorem zjE(c:UInt8 × Int)(l:Ch):(zW c l).1.1≠[]:=by
  unfold zW
  split<;>simp
theorem zgV(l:Ch):∀ a∈(zE l).1,a.1≠[]:=by
  induction l using zbO with
  | nil=>rw[zaM];intro a ha;cases ha
  | cons c l ih=>
    by_cases h:c.1=62
    . rw[za1 h];intro a ha;cases ha
    . rw[zaJ h]
      intro a ha
      rcases List.mem_cons.1 ha with rfl | ha
      . exact zjE c l
      . exact ih h a ha
def wS(s:TkS):Nat:=if s.st=1 then (if s.nm=[] then 0 else 3) else if s.st=2 then 2 else if s.st=0 then 1 else if s.st=3 then 3 else if s.st=6 then 2 else 0
theorem wS_le(s:TkS):wS s<=3:=by
  unfold wS
  repeat' split
  all_goals omega
def phi(l:Ch)(i:Nat)(s:TkS):Nat:=4 * (l.length - i)+wS s
def To(l:Ch)(i:Nat)(s:TkS)(j:Nat)(t:TkS):Prop:=∀ f,phi l i s < f->∃ f',phi l j t < f'/\runT l f i s=runT l f' j t
theorem To.refl(l:Ch)(i:Nat)(s:TkS):To l i s i s:=fun f h=>⟨f,h,rfl⟩
theorem To.trans{l:Ch}{i j k:Nat}{s t u:TkS}(h:To l i s j t)(h2:To l j t k u):To l i s k u:=by
  intro f hf
  obtain⟨f1,h3,e1⟩:=h f hf
  obtain⟨f2,h4,e2⟩:=h2 f1 h3
  exact⟨f2,h4,e1.trans e2⟩
theorem zle{l:Ch}{i:Nat}{s:TkS}(h:l.drop i=[])(f:Nat):runT l f i s=none:=by
  cases f with
  | zero=>rfl
  | succ f=>
    unfold runT
    rw[List.getElem?_eq_none (by simpa using h)]
theorem za2{l r:Ch}{i:Nat}{c:UInt8 × Int}(h:l.drop i=c::r):l[i]?=some c/\i < l.length/\l.drop (i+1)=r:=by
  have h1:(l.drop i)[0]?=some c:=by rw[h];rfl
  rw[List.getElem?_drop,Nat.add_zero]at h1
  refine⟨h1,(List.getElem?_eq_some_iff.1 h1).1,?_⟩
  rw[<-List.drop_drop,h]
  rfl
theorem znn{l r:Ch}{i f:Nat}{s:TkS}{c:UInt8 × Int}(h:l.drop i=c::r)(h99:(zjy s c).1=99):runT l (f+1) i s=some (i,s):=by
  unfold runT
  rw[(za2 h).1]
  show(if _ then _ else _)=_
  rw[if_pos h99]
theorem To.read{l r:Ch}{i:Nat}{s t:TkS}{c:UInt8 × Int}{n:Nat × Bool × Bool}(h:l.drop i=c::r)(hn:zjy s c=n)(h99:n.1≠99)(ha:n.2.2=false)(ht:zcj s c n=t):To l i s (i+1) t:=by
  obtain⟨h1,h2,h3⟩:=za2 h
  intro f hf
  obtain⟨f,rfl⟩:∃ g,f=g+1:=⟨f - 1,by unfold phi at hf;omega⟩
  refine⟨f,?_,?_⟩
  . unfold phi at hf ⊢
    have:wS t<=3:=wS_le t
    have:0<=wS s:=Nat.zero_le _
    omega
  . conv=>lhs;unfold runT
    rw[h1]
    show(if _ then _ else _)=_
    rw[hn,if_neg h99,ha,ht]
    rfl
theorem To.look{l r:Ch}{i:Nat}{s t:TkS}{c:UInt8 × Int}{n:Nat × Bool × Bool}(h:l.drop i=c::r)(hn:zjy s c=n)(h99:n.1≠99)(ha:n.2.2=true)(ht:zcj s c n=t)(hw:wS t < wS s):To l i s i t:=by
  obtain⟨h1,h2,h3⟩:=za2 h
  intro f hf
  obtain⟨f,rfl⟩:∃ g,f=g+1:=⟨f - 1,by unfold phi at hf;omega⟩
  refine⟨f,?_,?_⟩
  . unfold phi at hf ⊢
    omega
  . conv=>lhs;unfold runT
    rw[h1]
    show(if _ then _ else _)=_
    rw[hn,if_neg h99,ha,ht]
    rfl
theorem To.many{l:Ch}{S:Ch->TkS}{p:UInt8 × Int->Bool}(h:∀ (i:Nat) (acc r:Ch) (c:UInt8 × Int),l.drop i=c::r->p c=true->To l i (S acc) (i+1) (S (acc++ [c]))) :
    ∀ (seg:Ch) (i:Nat) (acc r:Ch),l.drop i=seg++ r->(∀ c∈seg,p c=true)->To l i (S acc) (i+seg.length) (S (acc++ seg)):=by
  intro seg
  induction seg with
  | nil=>intro i acc r _ _;rw[List.append_nil];exact To.refl _ _ _
  | cons c seg ih=>
    intro i acc r hd hp
    have h1:=h i acc (seg++ r) c hd (hp c (List.mem_cons_self ..))
    have h2:=ih (i+1) (acc++ [c]) r (za2 hd).2.2 (fun x hx=>hp x (List.mem_cons_of_mem _ hx))
    rw[List.length_cons,show i+(seg.length+1)=i+1+seg.length by omega,show acc++ c::seg=acc++ [c]++ seg by simp]
    exact h1.trans h2
theorem zen{p:UInt8->Bool}{l:Ch}{c:UInt8 × Int}(h:c∈zr p l):p c.1=false:=by
  have:=List.all_eq_true.1 List.all_takeWhile c h
  simpa using this
theorem zb1{l a b:Ch}{i:Nat}(h:l.drop i=a++ b):l.drop (i+a.length)=b:=by rw[<-List.drop_drop,h,List.drop_left]
theorem zn4(b:UInt8):spsB b=(spcB b || b == 47):=by
  unfold spsB spcB
  rw[Bool.eq_iff_iff]
  simp [or_assoc]
theorem zlf(b:UInt8):endN b=((spcB b || (b == 47 || b == 62)) || b == 61):=by
  unfold endN spcB
  rw[Bool.eq_iff_iff]
  simp [or_assoc]
theorem zlg(b:UInt8):endV b=(spcB b || b == 62):=by
  unfold endV spcB
  rw[Bool.eq_iff_iff]
  simp [or_assoc]
theorem zlh(b:UInt8):endT b=(spcB b || (b == 47 || b == 62)):=by
  unfold endT spcB
  rw[Bool.eq_iff_iff]
  simp [or_assoc]
theorem zeo{p:UInt8->Bool}{l r:Ch}{c:UInt8 × Int}(h:zH p l=c::r):p c.1=true:=by
  have:=List.head?_dropWhile_not (fun c:UInt8 × Int=>!(p c.1)) l
  rw[show l.dropWhile (fun c:UInt8 × Int=>!(p c.1))=zH p l from rfl,h]at this
  simpa using this
theorem zep{p:UInt8->Bool}{l r:Ch}{c:UInt8 × Int}(h:zo p l=c::r):p c.1=false:=by
  have:=List.head?_dropWhile_not (fun c:UInt8 × Int=>p c.1) l
  rw[show l.dropWhile (fun c:UInt8 × Int=>p c.1)=zo p l from rfl,h]at this
  simpa using this
theorem zcv(p:UInt8->Bool)(l:Ch):∃ g,l=g++ zo p l/\∀ c∈g,p c.1=true:=
  ⟨l.takeWhile fun c=>p c.1,List.takeWhile_append_dropWhile.symm,fun c h=>List.all_eq_true.1 List.all_takeWhile c h⟩
theorem ziT{l g r:Ch}{i:Nat}{nm vl:Ch}{al:List PA}(h:l.drop i=g++ r)(hg:∀ c∈g,spsB c.1=true):To l i ⟨0,nm,vl,al⟩ (i+g.length) ⟨0,nm,vl,al⟩:=by
  refine To.many (S:=fun _=>⟨0,nm,vl,al⟩) (p:=fun c=>spsB c.1) ?_ g i [] r h hg
  intro i acc r c hd hp
  have hp':spsB c.1=true:=hp
  rw[zn4]at hp'
  have h62:(c.1 == 62)=false:=by
    rw[beq_eq_false_iff_ne];intro e;rw[e]at hp';exact absurd hp' (by decide)
  refine To.read hd (n:=(0,false,false)) ?_ (by decide) rfl ?_
  . show zaG 0 c.1 _=_
    unfold zaG
    simp [h62,hp']
  . unfold zcj;simp
theorem ziU{l g r:Ch}{i st:Nat}(hs:st=2\/st=3){nm vl:Ch}{al:List PA}(h:l.drop i=g++ r)(hg:∀ c∈g,spcB c.1=true):To l i ⟨st,nm,vl,al⟩ (i+g.length) ⟨st,nm,vl,al⟩:=by
  refine To.many (S:=fun _=>⟨st,nm,vl,al⟩) (p:=fun c=>spcB c.1) ?_ g i [] r h hg
  intro i acc r c hd hp
  have hp':spcB c.1=true:=hp
  refine To.read hd (n:=(st,false,false)) ?_ ?_ rfl ?_
  . show zaG st c.1 _=_
    rcases hs with rfl | rfl<;>(unfold zaG;simp [hp'])
  . rcases hs with rfl | rfl<;>decide
  . rcases hs with rfl | rfl<;>(unfold zcj;simp)
theorem zoR{l g r:Ch}{i:Nat}{nm vl:Ch}{al:List PA}(h:l.drop i=g++ r)(hnm:nm≠[])(hg:∀ c∈g,endN c.1=false):To l i ⟨1,nm,vl,al⟩ (i+g.length) ⟨1,nm++ g,vl,al⟩:=by
  have:=To.many (l:=l) (S:=fun acc=>⟨1,nm++ acc,vl,al⟩) (p:=fun c=>!(endN c.1)) ?_ g i [] r h (fun c hc=>by rw[hg c hc];rfl)
  . simpa using this
  intro i acc r c hd hp
  have hp':endN c.1=false:=by simpa using hp
  rw[zlf]at hp'
  have hne:(nm++ acc).isEmpty=false:=by cases nm with | nil=>exact absurd rfl hnm | cons _ _=>rfl
  simp only[Bool.or_eq_false_iff]at hp'
  refine To.read hd (n:=(1,true,false)) ?_ (by decide) rfl ?_
  . show zaG 1 c.1 (!(nm++ acc).isEmpty)=_
    unfold zaG
    simp [hp']
  . unfold zcj;simp
theorem ziV{l g r:Ch}{i st:Nat}{e:UInt8->Bool}(hs:(st=4/\e=(· == 34))\/(st=5/\e=(· == 39))\/(st=6/\e=endV)){nm vl:Ch}{al:List PA}(h:l.drop i=g++ r)(hg:∀ c∈g,e c.1=false):To l i ⟨st,nm,vl,al⟩ (i+g.length) ⟨st,nm,vl++ g,al⟩:=by
  have:=To.many (l:=l) (S:=fun acc=>⟨st,nm,vl++ acc,al⟩) (p:=fun c=>!(e c.1)) ?_ g i [] r h (fun c hc=>by rw[hg c hc];rfl)
  . simpa using this
  intro i acc r c hd hp
  have hp':e c.1=false:=by simpa using hp
  refine To.read hd (n:=(st,true,false)) ?_ ?_ rfl ?_
  . show zaG st c.1 _=_
    rcases hs with ⟨rfl,rfl⟩ | ⟨rfl,rfl⟩ | ⟨rfl,rfl⟩
    . have:¬ c.1=34:=by simpa using hp'
      unfold zaG;simp [this]
    . have:¬ c.1=39:=by simpa using hp'
      unfold zaG;simp [this]
    . rw[zlg]at hp'
      unfold zaG;simp [hp']
  . rcases hs with ⟨rfl,rfl⟩ | ⟨rfl,rfl⟩ | ⟨rfl,rfl⟩<;>decide
  . rcases hs with ⟨rfl,rfl⟩ | ⟨rfl,rfl⟩ | ⟨rfl,rfl⟩<;>(unfold zcj;simp)
theorem zn5{l r:Ch}{i:Nat}{nm:Ch}{al:List PA}(h:l.drop i=r) :
    (∃ j v,To l i ⟨3,nm,[],al⟩ j ⟨0,nm,v,al⟩/\l.drop j=(qVal (zo spcB r)).2/\v=(qVal (zo spcB r)).1)\/((qVal (zo spcB r)).2=[]/\∃ j t,To l i ⟨3,nm,[],al⟩ j t/\l.drop j=[]):=by
  obtain⟨g,hg,hga⟩:=zcv spcB r
  have h1:=ziU (l:=l) (g:=g) (r:=zo spcB r) (i:=i) (Or.inr rfl) (nm:=nm) (vl:=[]) (al:=al) (by rw[h];exact hg) hga
  have hd:l.drop (i+g.length)=zo spcB r:=zb1 (by rw[h];exact hg)
  generalize i+g.length=i1 at *
  cases hr:zo spcB r with
  | nil=>
    rw[hr]at hd
    exact Or.inr ⟨rfl,i1,_,h1,hd⟩
  | cons c r1=>
    have hc:=zep hr
    rw[hr]at hd
    obtain⟨hat,hlt,hd1⟩:=za2 hd
    -- a value between two signs
    have key:∀ (st:Nat) (q:UInt8),((st=4/\q=34)\/(st=5/\q=39))->c.1=q->
        (∃ j v,To l i ⟨3,nm,[],al⟩ j ⟨0,nm,v,al⟩/\l.drop j=(zH (· == q) r1).tail/\v=zr (· == q) r1)\/((zH (· == q) r1).tail=[]/\∃ j t,To l i ⟨3,nm,[],al⟩ j t/\l.drop j=[]):=by
      intro st q hst hcq
      have h2:To l i1 ⟨3,nm,[],al⟩ (i1+1) ⟨st,nm,[],al⟩:=by
        refine To.read hd (n:=(st,false,false)) ?_ ?_ rfl ?_
        . show zaG 3 c.1 _=_
          rcases hst with ⟨rfl,rfl⟩ | ⟨rfl,rfl⟩<;>(unfold zaG;rw[hcq];rfl)
        . rcases hst with ⟨rfl,_⟩ | ⟨rfl,_⟩<;>decide
        . rcases hst with ⟨rfl,_⟩ | ⟨rfl,_⟩<;>(unfold zcj;simp)
      have h3:=ziV (l:=l) (g:=zr (· == q) r1) (r:=zH (· == q) r1) (i:=i1+1) (st:=st) (e:=(· == q)) (by rcases hst with ⟨rfl,rfl⟩ | ⟨rfl,rfl⟩;exact Or.inl ⟨rfl,rfl⟩;exact Or.inr (Or.inl ⟨rfl,rfl⟩)) (nm:=nm) (vl:=[]) (al:=al) (by rw[zaB];exact hd1) (fun c hc=>zen hc)
      have hd2:l.drop (i1+1+(zr (· == q) r1).length)=zH (· == q) r1:=zb1 (by rw[zaB];exact hd1)
      generalize i1+1+(zr (· == q) r1).length=i2 at *
      rw[List.nil_append]at h3
      cases hf:zH (· == q) r1 with
      | nil=>
        rw[hf]at hd2
        exact Or.inr ⟨rfl,i2,_,h1.trans (h2.trans h3),hd2⟩
      | cons d r2=>
        rw[hf]at hd2
        have hq:d.1=q:=by have:=zeo hf;simpa using this
        refine Or.inl ⟨i2+1,zr (· == q) r1,h1.trans (h2.trans (h3.trans ?_)),(za2 hd2).2.2,rfl⟩
        refine To.read hd2 (n:=(0,false,false)) ?_ (by decide) rfl ?_
        . show zaG st d.1 _=_
          rcases hst with ⟨rfl,rfl⟩ | ⟨rfl,rfl⟩<;>(unfold zaG;rw[hq];rfl)
        . unfold zcj;simp
    unfold qVal
    rw[zah,zah,List.tail_cons]
    by_cases h34:c.1=34
    . rw[if_pos (beq_iff_eq.2 h34)]
      exact key 4 34 (Or.inl ⟨rfl,rfl⟩) h34
    rw[if_neg (by simpa using h34)]
    by_cases h39:c.1=39
    . rw[if_pos (beq_iff_eq.2 h39)]
      exact key 5 39 (Or.inr ⟨rfl,rfl⟩) h39
    rw[if_neg (by simpa using h39)]
    have h2:To l i1 ⟨3,nm,[],al⟩ i1 ⟨6,nm,[],al⟩:=by
      refine To.look hd (n:=(6,false,true)) ?_ (by decide) rfl ?_ ?_
      . show zaG 3 c.1 _=_
        unfold zaG
        simp [hc,h34,h39]
      . unfold zcj;simp
      . unfold wS;simp
    have h3:=ziV (l:=l) (g:=zr endV (c::r1)) (r:=zH endV (c::r1)) (i:=i1) (st:=6) (e:=endV) (Or.inr (Or.inr ⟨rfl,rfl⟩)) (nm:=nm) (vl:=[]) (al:=al) (by rw[zaB];exact hd) (fun c hc=>zen hc)
    have hd2:l.drop (i1+(zr endV (c::r1)).length)=zH endV (c::r1):=zb1 (by rw[zaB];exact hd)
    generalize i1+(zr endV (c::r1)).length=i2 at *
    rw[List.nil_append]at h3
    cases hf:zH endV (c::r1) with
    | nil=>
      rw[hf]at hd2
      exact Or.inr ⟨rfl,i2,_,h1.trans (h2.trans h3),hd2⟩
    | cons d r2=>
      rw[hf]at hd2
      have hq:endV d.1=true:=zeo hf
      rw[zlg]at hq
      refine Or.inl ⟨i2,zr endV (c::r1),h1.trans (h2.trans (h3.trans ?_)),hd2,rfl⟩
      refine To.look hd2 (n:=(0,false,true)) ?_ (by decide) rfl ?_ ?_
      . show zaG 6 d.1 _=_
        unfold zaG
        simp [hq]
      . unfold zcj;simp
      . unfold wS;simp
theorem zoS{l r:Ch}{i:Nat}{c:UInt8 × Int}{nm vl:Ch}{al:List PA}(h:l.drop i=c::r)(h62:¬ c.1=62)(hsp:spsB c.1=false) :
    (∃ j,To l i ⟨0,nm,vl,al⟩ j ⟨0,(zW c r).1.1,(zW c r).1.2,zci al (nm,vl)⟩/\l.drop j=(zW c r).2)\/((zW c r).2=[]/\∃ j t,To l i ⟨0,nm,vl,al⟩ j t/\l.drop j=[]):=by
  rw[zn4,Bool.or_eq_false_iff]at hsp
  have h1:To l i ⟨0,nm,vl,al⟩ i ⟨1,[],[],zci al (nm,vl)⟩:=by
    refine To.look h (n:=(1,false,true)) ?_ (by decide) rfl ?_ ?_
    . show zaG 0 c.1 _=_
      unfold zaG
      simp [h62,hsp]
    . unfold zcj;simp
    . unfold wS;simp
  have h2:To l i ⟨1,[],[],zci al (nm,vl)⟩ (i+1) ⟨1,[c],[],zci al (nm,vl)⟩:=by
    refine To.read h (n:=(1,true,false)) ?_ (by decide) rfl ?_
    . show zaG 1 c.1 _=_
      unfold zaG
      simp
    . unfold zcj;simp
  have hd:=(za2 h).2.2
  have h3:=zoR (l:=l) (g:=zr endN r) (r:=zH endN r) (i:=i+1) (nm:=[c]) (vl:=[]) (al:=zci al (nm,vl)) (by rw[zaB];exact hd) (by simp) (fun c hc=>zen hc)
  have hd2:l.drop (i+1+(zr endN r).length)=zH endN r:=zb1 (by rw[zaB];exact hd)
  generalize i+1+(zr endN r).length=i2 at *
  have h4:=h1.trans (h2.trans h3)
  clear h1 h2 h3 hd
  rw[List.singleton_append]at h4
  have hne:(c::zr endN r).isEmpty=false:=rfl
  generalize hN:c::zr endN r=N at *
  generalize zci al (nm,vl)=AL at *
  -- what the bytes behind the name do
  cases hf:zH endN r with
  | nil=>
    rw[hf]at hd2
    have hq:(zW c r).2=[]:=by unfold zW;rw[hf];rfl
    exact Or.inr ⟨hq,i2,_,h4,hd2⟩
  | cons d r2=>
    rw[hf]at hd2
    have hd0:endN d.1=true:=zeo hf
    by_cases h61:d.1=61
    . -- a=at once
      have hov:zo spcB (d::r2)=d::r2:=by
        unfold zo
        rw[List.dropWhile_cons_of_neg (by rw[h61];decide)]
      have h5:To l i2 ⟨1,N,[],AL⟩ (i2+1) ⟨3,N,[],AL⟩:=by
        refine To.read hd2 (n:=(3,false,false)) ?_ (by decide) rfl ?_
        . show zaG 1 d.1 (!N.isEmpty)=_
          unfold zaG
          rw[h61,hne];rfl
        . unfold zcj;simp
      have hqa:zW c r=((N,(qVal (zo spcB r2)).1),(qVal (zo spcB r2)).2):=by
        unfold zW
        rw[hf,hov,zah,if_pos (beq_iff_eq.2 h61),List.tail_cons,hN]
      rcases zn5 (l:=l) (nm:=N) (al:=AL) (za2 hd2).2.2 with ⟨j,v,h6,h7,h8⟩ | ⟨h6,j,t,h7,h8⟩
      . refine Or.inl ⟨j,?_,?_⟩
        . rw[hqa,<-h8];exact h4.trans (h5.trans h6)
        . rw[hqa];exact h7
      . exact Or.inr ⟨by rw[hqa];exact h6,j,t,h4.trans (h5.trans h7),h8⟩
    . -- a space,/ or >
      have hsp2:(spcB d.1 || (d.1 == 47 || d.1 == 62))=true:=by
        rw[zlf,beq_eq_false_iff_ne.2 h61,Bool.or_false]at hd0;exact hd0
      have h5:To l i2 ⟨1,N,[],AL⟩ i2 ⟨2,N,[],AL⟩:=by
        refine To.look hd2 (n:=(2,false,true)) ?_ (by decide) rfl ?_ ?_
        . show zaG 1 d.1 (!N.isEmpty)=_
          unfold zaG
          rw[hne,Bool.not_false,Bool.true_and,hsp2];rfl
        . unfold zcj;simp
        . have:N≠[]:=by rw[<-hN];simp
          unfold wS;simp [this]
      obtain⟨g,hg,hga⟩:=zcv spcB (d::r2)
      have h6:=ziU (l:=l) (g:=g) (r:=zo spcB (d::r2)) (i:=i2) (Or.inl rfl) (nm:=N) (vl:=[]) (al:=AL) (by rw[hd2];exact hg) hga
      have hd3:l.drop (i2+g.length)=zo spcB (d::r2):=zb1 (by rw[hd2];exact hg)
      generalize i2+g.length=i3 at *
      cases hr:zo spcB (d::r2) with
      | nil=>
        rw[hr]at hd3
        have hq:(zW c r).2=[]:=by unfold zW;rw[hf,hr];rfl
        exact Or.inr ⟨hq,i3,_,h4.trans (h5.trans h6),hd3⟩
      | cons e r3=>
        rw[hr]at hd3
        have he:=zep hr
        by_cases h61:e.1=61
        . have h7:To l i3 ⟨2,N,[],AL⟩ (i3+1) ⟨3,N,[],AL⟩:=by
            refine To.read hd3 (n:=(3,false,false)) ?_ (by decide) rfl ?_
            . show zaG 2 e.1 _=_
              unfold zaG
              rw[h61];rfl
            . unfold zcj;simp
          have hqa:zW c r=((N,(qVal (zo spcB r3)).1),(qVal (zo spcB r3)).2):=by
            unfold zW
            rw[hf,hr,zah,if_pos (beq_iff_eq.2 h61),List.tail_cons,hN]
          rcases zn5 (l:=l) (nm:=N) (al:=AL) (za2 hd3).2.2 with ⟨j,v,h8,h9,h10⟩ | ⟨h8,j,t,h9,h10⟩
          . refine Or.inl ⟨j,?_,?_⟩
            . rw[hqa,<-h10];exact h4.trans (h5.trans (h6.trans (h7.trans h8)))
            . rw[hqa];exact h9
          . exact Or.inr ⟨by rw[hqa];exact h8,j,t,h4.trans (h5.trans (h6.trans (h7.trans h9))),h10⟩
        . have h7:To l i3 ⟨2,N,[],AL⟩ i3 ⟨0,N,[],AL⟩:=by
            refine To.look hd3 (n:=(0,false,true)) ?_ (by decide) rfl ?_ ?_
            . show zaG 2 e.1 _=_
              unfold zaG
              simp [he,h61]
            . unfold zcj;simp
            . unfold wS;simp
          have hqa:zW c r=((N,[]),e::r3):=by
            unfold zW
            rw[hf,hr,zah,if_neg (by simpa using h61),hN]
          refine Or.inl ⟨i3,?_,?_⟩
          . rw[hqa];exact h4.trans (h5.trans (h6.trans h7))
          . rw[hqa];exact hd3
theorem zli{l:Ch}(m:Ch):∀ (i:Nat) (nm vl:Ch) (al:List PA) (f:Nat),zo spsB (l.drop i)=m->phi l i ⟨0,nm,vl,al⟩ < f->
    match runT l f i ⟨0,nm,vl,al⟩ with
    | none=>(zE m).2=[]
    | some (j,s)=>(zE m).2≠[]/\l.drop j=(zE m).2/\j < l.length/\zci s.al (s.nm,s.vl)=(zE m).1.foldl zci (zci al (nm,vl)):=by
  induction m using zbO with
  | nil=>
    intro i nm vl al f hm hf
    obtain⟨g,hg,hga⟩:=zcv spsB (l.drop i)
    rw[hm]at hg
    obtain⟨f1,hf1,e1⟩:=ziT (nm:=nm) (vl:=vl) (al:=al) hg hga f hf
    rw[e1,zle (zb1 hg),zaM]
  | cons c m ih=>
    intro i nm vl al f hm hf
    obtain⟨g,hg,hga⟩:=zcv spsB (l.drop i)
    rw[hm]at hg
    obtain⟨f1,hf1,e1⟩:=ziT (nm:=nm) (vl:=vl) (al:=al) hg hga f hf
    have hd:=zb1 hg
    have hsp:=zep hm
    rw[e1]
    generalize i+g.length=i1 at *
    obtain⟨hat,hlt,hd1⟩:=za2 hd
    by_cases h62:c.1=62
    . obtain⟨f1,rfl⟩:∃ k,f1=k+1:=⟨f1 - 1,by unfold phi at hf1;omega⟩
      rw[znn hd (by show(zaG 0 c.1 _).1=99;rw[h62];rfl),za1 h62]
      exact⟨by simp,hd,hlt,rfl⟩
    . rw[zaJ h62]
      have hq:=ih h62
      rcases zoS (nm:=nm) (vl:=vl) (al:=al) hd h62 hsp with ⟨j,h1,h2⟩ | ⟨h1,j,t,h2,h3⟩
      . obtain⟨f2,hf2,e2⟩:=h1 f1 hf1
        rw[e2]
        have h3:=hq j (zW c m).1.1 (zW c m).1.2 (zci al (nm,vl)) f2 (by rw[h2]) hf2
        revert h3
        cases runT l f2 j ⟨0,(zW c m).1.1,(zW c m).1.2,zci al (nm,vl)⟩ with
        | none=>exact fun h3=>h3
        | some x=>exact fun h3=>h3
      . obtain⟨f2,hf2,e2⟩:=h2 f1 hf1
        rw[e2,zle h3,h1,show zo spsB []=[]from rfl,zaM]
theorem zhS(l:Ch):zk9 l=(zr endT l).length:=by
  unfold zk9 zr
  congr 2
  funext c
  rw[zlh,Bool.not_or,Bool.not_or]
theorem ze6(p:UInt8->Bool)(l:Ch):l.take (zr p l).length=zr p l:=by
  have h:=congrArg (List.take (zr p l).length) (zaB p l)
  rw[List.take_left]at h
  exact h.symm
theorem ze7(p:UInt8->Bool)(l:Ch):l.drop (zr p l).length=zH p l:=by
  have h:=congrArg (List.drop (zr p l).length) (zaB p l)
  rw[List.drop_left]at h
  exact h.symm
theorem zgW{p:UInt8->Bool}{c:UInt8 × Int}{l:Ch}(h:p c.1=false):zo p (c::l)=c::l:=by
  unfold zo
  rw[List.dropWhile_cons_of_neg (by simp [h])]
theorem zpK{b:UInt8}(h:letB b=true):(b == 47)=false:=by
  rw[beq_eq_false_iff_ne]
  intro e
  rw[e]at h
  exact absurd h (by decide)
theorem zjF{m:Ch}(h:zaf m=true):∃ b r,(m.map (·.1)).take 1=[60]/\m.drop (zaN m)=b::r/\letB b.1=true/\zo (· == 47) m.tail=b::r/\(zaN m=2/\isA [47] m.tail=true\/zaN m=1/\isA [47] m.tail=false):=by
  unfold zaf at h
  rw[Bool.and_eq_true]at h
  obtain⟨h0,h1⟩:=h
  cases m with
  | nil=>cases h0
  | cons c0 m1=>
    rw[zah,beq_iff_eq]at h0
    rw[List.tail_cons]at h1 ⊢
    have hh:((c0::m1).map (·.1)).take 1=[60]:=by rw[<-h0];rfl
    cases m1 with
    | nil=>rw[zoP]at h1;simp at h1
    | cons c1 m2=>
      rw[zah]at h1
      by_cases h47:c1.1=47
      . rw[if_pos (beq_iff_eq.2 h47),List.tail_cons]at h1
        cases m2 with
        | nil=>simp at h1
        | cons b r=>
          simp only at h1
          have hf:zaN (c0::c1::b::r)=2:=by
            unfold zaN
            rw[if_pos]
            show [c0.1,c1.1]=_
            rw[h0,h47]
          refine⟨b,r,hh,by rw[hf];rfl,h1,?_,Or.inl ⟨hf,by rw[zah,beq_iff_eq];exact h47⟩⟩
          show zo (· == 47) (c1::b::r)=_
          unfold zo
          rw[List.dropWhile_cons_of_pos (by simp [h47])]
          exact zgW (p:=(· == 47)) (zpK h1)
      . rw[if_neg (by simpa using h47)]at h1
        simp only at h1
        have hf:zaN (c0::c1::m2)=1:=by
          unfold zaN
          rw[if_neg]
          show ¬ [c0.1,c1.1]=_
          intro e
          injection e with _ e
          injection e with e _
          exact h47 e
        exact⟨c1,m2,hh,by rw[hf];rfl,h1,zgW (p:=(· == 47)) (zpK h1),Or.inr ⟨hf,by rw[zah,beq_eq_false_iff_ne];exact h47⟩⟩
theorem zoT{m:Ch}(h:zaf m=false):tagP m=none:=by
  unfold tagP
  cases hb:m[zaN m]? with
  | none=>rfl
  | some b=>
    simp only
    rw[if_neg]
    rintro⟨h1,h2⟩
    cases m with
    | nil=>simp at h1
    | cons c0 m1=>
      have h0:c0.1=60:=by injection h1
      have:zaf (c0::m1)=true:=by
        unfold zaf
        rw[zah,beq_iff_eq.2 h0,Bool.true_and,List.tail_cons]
        cases m1 with
        | nil=>exfalso;unfold zaN at hb;simp at hb
        | cons c1 m2=>
          rw[zah]
          by_cases h47:c1.1=47
          . rw[if_pos (beq_iff_eq.2 h47),List.tail_cons]
            have hf:zaN (c0::c1::m2)=2:=by
              unfold zaN
              rw[if_pos]
              show [c0.1,c1.1]=_
              rw[h0,h47]
            rw[hf]at hb
            cases m2 with
            | nil=>simp at hb
            | cons d m3=>simp at hb;subst hb;exact h2
          . rw[if_neg (by simpa using h47)]
            have hf:zaN (c0::c1::m2)=1:=by
              unfold zaN
              rw[if_neg]
              show ¬ [c0.1,c1.1]=_
              intro e
              injection e with _ e
              injection e with e _
              exact h47 e
            rw[hf]at hb
            simp at hb
            subst hb
            exact h2
      rw[this]at h
      cases h
theorem zlj{m:Ch}(h:zaf m=true):tagP m=(tagQ m).map fun x=>(x.1,m.length - x.2.length):=by
  obtain⟨b,r,h1,h2,h3,h4,h5⟩:=zjF h
  have hb:m[zaN m]?=some b:=(za2 h2).1
  have hfl:=ziS m
  unfold tagP tagQ
  rw[hb,h4,h2]
  simp only
  rw[if_pos ⟨h1,h3⟩,zhS,ze6]
  have hd:m.drop (zaN m+(zr endT (b::r)).length)=zH endT (b::r):=by rw[<-List.drop_drop,h2,ze7]
  generalize zaN m+(zr endT (b::r)).length=p at *
  have hr:=zli (l:=m) (zo spsB (zH endT (b::r))) p [] [] [] (4 * m.length+9) (by rw[hd]) (by unfold phi wS;simp;omega)
  generalize zH endT (b::r)=q0 at *
  generalize hq:zE (zo spsB q0)=q at *
  cases hrun:runT m (4 * m.length+9) p ⟨0,[],[],[]⟩ with
  | none=>
    rw[hrun]at hr
    simp only at hr
    simp only
    rw[if_pos hr]
    rfl
  | some x=>
    obtain⟨j,s⟩:=x
    rw[hrun]at hr
    simp only at hr
    obtain⟨hr1,hr2,hr3,hr4⟩:=hr
    simp only
    rw[if_neg hr1]
    have hl:q.2.length=m.length - j:=by rw[<-hr2,List.length_drop]
    have hj:m.length - q.2.length=j:=by omega
    have hnm:∀ a∈q.1,a.1≠[]:=by rw[<-hq];exact zgV _
    have hd0:zci [] ([],[])=[]:=by unfold zci;rw[if_pos rfl]
    rw[hd0,zjD _ hnm,<-zjC]at hr4
    rw[hr4,hj]
    have ht:m.length - q.2.tail.length=j+1:=by rw[List.length_tail];omega
    simp only[Option.map_some,ht]
    rcases h5 with ⟨h6,h7⟩ | ⟨h6,h7⟩
    . rw[h6,h7];rfl
    . rw[h6,h7];rfl
theorem zbi(p:UInt8->Bool)(l:Ch):zH p l <:+ l:=List.dropWhile_suffix _
theorem zbj(p:UInt8->Bool)(l:Ch):zo p l <:+ l:=List.dropWhile_suffix _
theorem zhT(l:Ch):(qVal l).2 <:+ l:=by
  unfold qVal
  split
  . exact(List.tail_suffix _).trans ((zbi _ _).trans (List.tail_suffix _))
  . split
    . exact(List.tail_suffix _).trans ((zbi _ _).trans (List.tail_suffix _))
    . exact zbi _ _
theorem zgX(c:UInt8 × Int)(l:Ch):(zW c l).2 <:+ l:=by
  have h1:=(zbj spcB (zH endN l)).trans (zbi endN l)
  unfold zW
  split
  . exact(zhT _).trans ((zbj _ _).trans ((List.tail_suffix _).trans h1))
  . exact h1
theorem zfL(l:Ch):(zE l).2 <:+ l:=by
  induction l using zbO with
  | nil=>rw[zaM];exact List.suffix_rfl
  | cons c l ih=>
    by_cases h:c.1=62
    . rw[za1 h];exact List.suffix_rfl
    . rw[zaJ h]
      exact(ih h).trans ((zbj _ _).trans ((zgX c l).trans (List.suffix_cons c l)))
theorem zhU(m:Ch):(zE (zo spsB (zH endT (zo (· == 47) m.tail)))).2.tail <:+ m:=
  (List.tail_suffix _).trans ((zfL _).trans ((zbj _ _).trans ((zbi _ _).trans ((zbj _ _).trans (List.tail_suffix _)))))
theorem zlk{m r:Ch}{t:PTok}(hm:m≠[])(h:tagQ m=some (t,r)):r.length < m.length:=by
  unfold tagQ at h
  split at h
  . cases h
  . injection h with h
    injection h with _ h
    have h1:=(zgU (zo spsB (zH endT (zo (· == 47) m.tail)))).1
    have h2:=zaI spsB (zH endT (zo (· == 47) m.tail))
    have h3:=zdj endT (zo (· == 47) m.tail)
    have h4:=zaI (· == 47) m.tail
    have h5:0 < m.length:=List.length_pos_iff.2 hm
    rw[List.length_tail]at h4
    rw[<-h,List.length_tail]
    omega
def zP(toks:List PTok)(ps:List Ch):List PTok:=if ps=[] then toks else toks++ [⟨3,[],[],false,ps.flatten⟩]
def zck(n:Ch):Bool:=n.map (·.1) == [115,99,114,105,112,116] || n.map (·.1) == [115,116,121,108,101]
def zbd(m:Ch)(k:Nat)(e:List UInt8):Ch × Ch:=
  if Lib.index ((m.drop k).map (·.1)) e < 0 then (m.drop k,[])
  else ((m.drop k).take (Lib.index ((m.drop k).map (·.1)) e).toNat,(m.drop k).drop ((Lib.index ((m.drop k).map (·.1)) e).toNat+e.length))
def zdk(l:Ch):PTok:=⟨4,[],[],false,l⟩
def zaD(toks:List PTok)(ps:List Ch)(m:Ch):List PTok × List Ch × Ch:=
  if zaf m then
    match tagQ m with
    | none=>(toks,ps,[])
    | some (t,r)=>
      if (decide (t.kind=1) && zck t.name)=true then (zP toks ps++ [t],(if rawT (t.name.map (·.1)) r=0 then [] else [r.take (rawT (t.name.map (·.1)) r)]),r.drop (rawT (t.name.map (·.1)) r))
      else (zP toks ps++ [t],[],r)
  else if isA [60,47,62] m then (toks,ps,m.drop 3)
  else if isA [60,33,45,45] m then (zP toks ps++ [zdk (zbd m 4 [45,45,62]).1],[],(zbd m 4 [45,45,62]).2)
  else if isA [60,33] m || (isA [60,63] m || (isA [60,47] m && !(m.map (·.1) == [60,47]))) then (zP toks ps++ [zdk (zbd m 2 [62]).1],[],(zbd m 2 [62]).2)
  else (toks,ps++ [decE (m.take (1+ltT m.tail))],m.drop (1+ltT m.tail))
def okQ(toks:List PTok)(ps:List Ch):Prop:=(∀ t,toks.getLast?=some t->t.kind≠3)/\∀ p∈ps,p≠[]
def tokQ(out:List PTok)(l:Ch):List PTok:=tokR (l.length+1) out l
theorem zoU{l:Ch}(h:l≠[]):decE l≠[]:=by
  intro e
  have:=zgP h
  rw[zbN h]at e
  have h2:=congrArg List.length e
  rw[List.length_append,zir,List.length_nil]at h2
  omega
theorem zoV{c:UInt8 × Int}{l:Ch}(h:InR (c::l))(h60:c.1=60):decE (c::l)=c::decE l:=by
  have:=zfJ (l:=c::l) (b:=c.1) (o:=c.2) rfl (h c.2 (by simp)).1 (by rw[List.map_cons];exact zcg (by rw[h60];decide))
  exact this
theorem zcw(out:List PTok):zbD out []=out:=by unfold zbD;rw[if_pos rfl]
theorem zcK{toks:List PTok}{ps:List Ch}{d:Ch}(h:okQ toks ps)(hd:d≠[]):zbD (zP toks ps) d=zP toks (ps++ [d]):=by
  have e2:zP toks (ps++ [d])=toks++ [⟨3,[],[],false,ps.flatten++ d⟩]:=by
    unfold zP
    rw[if_neg (by simp),List.flatten_append]
    simp
  rw[e2]
  unfold zbD
  rw[if_neg hd]
  by_cases hp:ps=[]
  . subst hp
    unfold zP
    rw[if_pos rfl]
    cases ht:toks.getLast? with
    | none=>
      have:toks=[]:=List.getLast?_eq_none_iff.1 ht
      subst this
      rfl
    | some t=>
      simp only
      rw[if_neg (h.1 t ht)]
      rfl
  . unfold zP
    rw[if_neg hp]
    simp
theorem zll{out:List PTok}{a b:Ch}(ha:a≠[])(hb:b≠[]):zbD (zbD out a) b=zbD out (a++ b):=by
  have hab:a++ b≠[]:=fun e=>ha (List.append_eq_nil_iff.1 e).1
  unfold zbD
  rw[if_neg ha,if_neg hb,if_neg hab]
  cases out.getLast? with
  | none=>simp
  | some t=>
    simp only
    by_cases hk:t.kind=3
    . rw[if_pos hk,if_pos hk]
      simp
    . rw[if_neg hk,if_neg hk]
      simp
theorem zfM{toks:List PTok}{ps:List Ch}{d:Ch}(h:okQ toks ps)(hd:d≠[]):okQ toks (ps++ [d]):=
  ⟨h.1,fun p hp=>by rcases List.mem_append.1 hp with hp | hp;exact h.2 p hp;simp at hp;subst hp;exact hd⟩
theorem zfN{out:List PTok}{t:PTok}(h:t.kind≠3):okQ (out++ [t]) []:=⟨fun x hx=>by simp at hx;subst hx;exact h,fun p hp=>by cases hp⟩
theorem zcl(toks:List PTok):zP toks []=toks:=by unfold zP;rw[if_pos rfl]
theorem zfO{out out':List PTok}{l l':Ch}(hl:l≠[])(h:zel out l=some (out',l')):l'.length < l.length:=by
  have hp:0 < l.length:=List.length_pos_iff.2 hl
  have h2:∀ i:Nat,zZ l i≠0->i < l.length:=by
    intro i hi
    rcases Nat.lt_or_ge i l.length with h | h
    . exact h
    . exfalso;apply hi;unfold zZ;rw[List.getElem?_eq_none h];rfl
  unfold zel at h
  split at h
  . cases ht:tagP l with
    | none=>rw[ht]at h;cases h
    | some x=>
      obtain⟨t,k⟩:=x
      rw[ht]at h
      have hk:=zlc ht
      simp only at h
      split at h
      . injection h with h;injection h with _ h
        rw[<-h,List.length_drop,List.length_drop];omega
      . injection h with h;injection h with _ h
        rw[<-h,List.length_drop];omega
  . split at h
    . injection h with h;injection h with _ h
      rw[<-h,List.length_drop];omega
    . split at h
      . rename_i h3
        injection h with h;injection h with _ h
        have:=(zct (l:=l) (k:=4) (e:=[45,45,62]) (by omega)).2
        rw[<-h,List.length_drop];omega
      . split at h
        . rename_i h3
          injection h with h;injection h with _ h
          have:2<=l.length:=by
            rcases h3 with h3 | h3 | h3
            . omega
            . have:=h2 1 (by rw[h3];decide);omega
            . have:=h2 1 (by rw[h3];decide);omega
          have:=(zct (l:=l) (k:=2) (e:=[62]) this).2
          rw[<-h,List.length_drop];omega
        . injection h with h;injection h with _ h
          rw[<-h,List.length_drop];omega
theorem zgY:∀ (f g:Nat) (out:List PTok) (l:Ch),l.length < f->l.length < g->tokR f out l=tokR g out l:=by
  intro f
  induction f with
  | zero=>intro g out l h;omega
  | succ f ih=>
    intro g out l hf hg
    obtain⟨g,rfl⟩:∃ k,g=k+1:=⟨g - 1,by omega⟩
    unfold tokR
    by_cases hl:l=[]
    . rw[if_pos hl,if_pos hl]
    rw[if_neg hl,if_neg hl]
    by_cases hd:l.drop (ltT l)=[]
    . rw[if_pos hd,if_pos hd]
    rw[if_neg hd,if_neg hd]
    cases hm:zel (zbD out (decE (l.take (ltT l)))) (l.drop (ltT l)) with
    | none=>rfl
    | some x=>
      obtain⟨o',l'⟩:=x
      have h1:=zfO hd hm
      rw[List.length_drop]at h1
      exact ih g o' l' (by omega) (by omega)
theorem zdP(out:List PTok):tokQ out []=out:=by unfold tokQ tokR;rw[if_pos rfl]
theorem zlm{c:UInt8 × Int}{l:Ch}(h:c.1=60):ltT (c::l)=0:=by
  unfold ltT
  rw[List.takeWhile_cons_of_neg (by simp [h])]
  rfl
theorem zeq{c:UInt8 × Int}{l:Ch}(h:¬ c.1=60):ltT (c::l)=ltT l+1:=by
  unfold ltT
  rw[List.takeWhile_cons_of_pos (by simp [h])]
  rfl
theorem zno{l r:Ch}{c:UInt8 × Int}(h:l.drop (ltT l)=c::r):c.1=60:=by
  induction l with
  | nil=>simp at h
  | cons d l ih=>
    by_cases hd:d.1=60
    . rw[zlm hd,List.drop_zero]at h
      injection h with h _
      rw[<-h];exact hd
    . rw[zeq hd,List.drop_succ_cons]at h
      exact ih h
theorem zgZ{out:List PTok}{m:Ch}{c:UInt8 × Int}(h:c.1=60):tokQ out (c::m)=match zel out (c::m)with | none=>out | some (o',l')=>tokQ o' l':=by
  conv=>lhs;unfold tokQ tokR
  rw[if_neg (by simp),zlm h,List.take_zero,List.drop_zero,zb0,zcw,if_neg (by simp)]
  cases hm:zel out (c::m) with
  | none=>rfl
  | some x=>
    obtain⟨o',l'⟩:=x
    have:=zfO (by simp) hm
    exact zgY _ _ _ _ this (by omega)
theorem zer(out:List PTok)(l:Ch):tokQ out l=tokQ (zbD out (decE (l.take (ltT l)))) (l.drop (ltT l)):=by
  by_cases hl:l=[]
  . subst hl
    rw[show ltT []=0 from rfl,List.take_zero,zb0,zcw]
    rfl
  by_cases hd:l.drop (ltT l)=[]
  . rw[hd,zdP]
    conv=>lhs;unfold tokQ tokR
    rw[if_neg hl,if_pos hd]
  . conv=>lhs;unfold tokQ tokR
    rw[if_neg hl,if_neg hd]
    cases hr:l.drop (ltT l) with
    | nil=>exact absurd hr hd
    | cons c r=>
      rw[zgZ (zno hr)]
      cases hm:zel (zbD out (decE (l.take (ltT l)))) (c::r) with
      | none=>rfl
      | some x=>
        obtain⟨o',l'⟩:=x
        have h1:=zfO (by simp) hm
        have h2:=congrArg List.length hr
        rw[List.length_drop]at h2
        exact zgY _ _ _ _ (by omega) (by omega)
theorem ze8{c:UInt8 × Int}{m:Ch}(h:c.1=60):zaf (c::m)=(letB (zZ (c::m) 1) || (zZ (c::m) 1 == 47 && letB (zZ (c::m) 2))):=by
  unfold zaf
  rw[zah,h,List.tail_cons]
  rcases m with _ | ⟨d,_ | ⟨e,r⟩⟩
  . rfl
  . rw[zah]
    show _=(letB d.1 || (d.1 == 47 && letB 0))
    by_cases h47:d.1=47
    . rw[h47];rfl
    . rw[if_neg (by simpa using h47),show letB 0=false by decide]
      simp
  . rw[zah]
    show _=(letB d.1 || (d.1 == 47 && letB e.1))
    by_cases h47:d.1=47
    . rw[h47,show letB 47=false by decide]
      simp
    . rw[if_neg (by simpa using h47),beq_eq_false_iff_ne.2 h47]
      simp
theorem zg0{c:UInt8 × Int}{m:Ch}(h:c.1=60):(isA [60,47,62] (c::m)=true)=(zZ (c::m) 1=47/\zZ (c::m) 2=62):=by
  rcases m with _ | ⟨d,_ | ⟨e,r⟩⟩
  . simp [isA,zZ,h]
  . simp [isA,zZ,h]
  . simp [isA,zZ,h]
theorem ziW{c:UInt8 × Int}{m:Ch}(h:c.1=60):(isA [60,33,45,45] (c::m)=true)=(3 < (c::m).length/\zZ (c::m) 1=33/\zZ (c::m) 2=45/\zZ (c::m) 3=45):=by
  rcases m with _ | ⟨d,_ | ⟨e,_ | ⟨g,r⟩⟩⟩
  . simp [isA,zZ,h]
  . simp [isA,zZ,h]
  . simp [isA,zZ,h]
  . simp [isA,zZ,h]
theorem zln{c:UInt8 × Int}{m:Ch}(h:c.1=60):((isA [60,33] (c::m) || (isA [60,63] (c::m) || (isA [60,47] (c::m) && !((c::m).map (·.1) == [60,47]))))=true)=((zZ (c::m) 1=47/\2 < (c::m).length)\/zZ (c::m) 1=33\/zZ (c::m) 1=63):=by
  rcases m with _ | ⟨d,_ | ⟨e,r⟩⟩
  . simp [isA,zZ,h]
  . simp [isA,zZ,h]
  . simp [isA,zZ,h]
    exact⟨fun k=>by rcases k with k | k | k;exact Or.inr (Or.inl k);exact Or.inr (Or.inr k);exact Or.inl k,fun k=>by rcases k with k | k | k;exact Or.inr (Or.inr k);exact Or.inl k;exact Or.inr (Or.inl k)⟩
theorem zbP{c:UInt8 × Int}{m:Ch}(h:¬ c.1=60)(p:List UInt8):isA (60::p) (c::m)=false:=by
  unfold isA
  rw[beq_eq_false_iff_ne]
  intro e
  rw[List.map_cons,List.length_cons,List.take_succ_cons]at e
  injection e with e _
  exact h e
theorem zlo{m:Ch}{k:Nat}{e:List UInt8}(hk:k<=m.length):zb9 m k e=((zbd m k e).1,m.length - (zbd m k e).2.length)/\(zbd m k e).2=m.drop (zb9 m k e).2:=by
  have ha:atN m.length (k:Int)=k:=by unfold atN;omega
  have hf:zdI (m.map (·.1)) e (k:Int)=if Lib.index ((m.drop k).map (·.1)) e < 0 then -1 else (k:Int)+Lib.index ((m.drop k).map (·.1)) e:=by
    unfold zdI
    rw[List.length_map,ha,<-List.map_drop]
  have hbd:=zct (l:=m) (k:=k) (e:=e) hk
  unfold zb9 at hbd ⊢
  unfold zbd
  rw[hf]at hbd ⊢
  by_cases hi:Lib.index ((m.drop k).map (·.1)) e < 0
  . rw[if_pos hi]at hbd ⊢
    rw[if_pos (by decide),if_pos hi]
    simp
  . rw[if_neg hi]at hbd ⊢
    rw[if_neg (by omega)]at hbd
    rw[if_neg (by omega),if_neg hi]
    obtain⟨i,hii⟩:∃ i:Nat,Lib.index ((m.drop k).map (·.1)) e=(i:Int):=⟨(Lib.index ((m.drop k).map (·.1)) e).toNat,by omega⟩
    rw[hii]at hbd ⊢
    have h1:((k:Int)+(i:Int)).toNat=k+i:=by omega
    have h2:((i:Int)).toNat=i:=by omega
    rw[h1]at hbd ⊢
    rw[h2]
    simp only at hbd ⊢
    refine⟨?_,?_⟩
    . rw[List.length_drop,List.length_drop,Prod.mk.injEq]
      refine⟨?_,by omega⟩
      rw[List.take_drop]
    . rw[List.drop_drop]
      congr 1
      omega
theorem zlp{toks:List PTok}{ps:List Ch}{m:Ch}(hm:m≠[])(hin:InR m)(hok:okQ toks ps) :
    tokQ (zP toks ps) m=tokQ (zP (zaD toks ps m).1 (zaD toks ps m).2.1) (zaD toks ps m).2.2/\okQ (zaD toks ps m).1 (zaD toks ps m).2.1/\(zaD toks ps m).2.2.length < m.length:=by
  cases m with
  | nil=>exact absurd rfl hm
  | cons c m'=>
    by_cases h60:c.1=60
    . -- a <
      rw[zgZ h60]
      unfold zaD zel
      rw[ze8 h60]
      by_cases h1:(letB (zZ (c::m') 1) || (zZ (c::m') 1 == 47 && letB (zZ (c::m') 2)))=true
      . rw[if_pos h1,if_pos h1,zlj (by rw[ze8 h60];exact h1)]
        cases ht:tagQ (c::m') with
        | none=>exact⟨by rw[zdP];rfl,hok,by simp⟩
        | some x=>
          obtain⟨t,r⟩:=x
          have hlt:=zlk (by simp) ht
          have hr:(c::m').drop ((c::m').length - r.length)=r:=by
            have hs:r <:+ (c::m'):=by
              unfold tagQ at ht
              split at ht
              . cases ht
              . injection ht with ht
                injection ht with _ ht
                rw[<-ht]
                exact zhU _
            obtain⟨p,hp⟩:=hs
            rw[<-hp,List.length_append,Nat.add_sub_cancel,List.drop_left]
          have hk3:t.kind≠3:=by
            unfold tagQ at ht
            split at ht
            . cases ht
            . injection ht with ht
              injection ht with ht _
              rw[<-ht]
              split
              . show(2:Nat)≠3;decide
              . show(1:Nat)≠3;decide
          simp only[Option.map_some]
          have hcond:(t.kind=1/\(t.name.map (·.1)=[115,99,114,105,112,116]\/t.name.map (·.1)=[115,116,121,108,101]))=((decide (t.kind=1) && zck t.name)=true):=by
            unfold zck
            simp
          rw[hr]
          by_cases hc:(decide (t.kind=1) && zck t.name)=true
          . rw[if_pos hc,if_pos (by rw[hcond];exact hc)]
            have hok2:=zfN (out:=zP toks ps) hk3
            by_cases hz:rawT (t.name.map (·.1)) r=0
            . rw[hz,if_pos rfl,List.take_zero,List.drop_zero,zcw,zcl]
              exact⟨rfl,hok2,hlt⟩
            . rw[if_neg hz]
              have hrl:=zfK (t.name.map (·.1)) r
              have hne:r.take (rawT (t.name.map (·.1)) r)≠[]:=by
                intro e
                have:=congrArg List.length e
                rw[List.length_take]at this
                rw[List.length_nil]at this
                omega
              have:=zcK hok2 hne
              rw[zcl]at this
              refine⟨by rw[this];rfl,zfM hok2 hne,?_⟩
              show(r.drop _).length < _
              rw[List.length_drop];omega
          . rw[if_neg hc,if_neg (by rw[hcond];exact hc),zcl]
            exact⟨rfl,zfN hk3,hlt⟩
      . rw[if_neg h1,if_neg h1]
        by_cases h2:zZ (c::m') 1=47/\zZ (c::m') 2=62
        . have g:_:=(zg0 h60).mpr h2
          rw[if_pos h2,if_pos g]
          exact⟨rfl,hok,by show(List.drop 3 (c::m')).length < _;rw[List.length_drop,List.length_cons];omega⟩
        have g2:=fun g=>h2 ((zg0 h60).mp g)
        rw[if_neg h2,if_neg g2]
        by_cases h3:3 < (c::m').length/\zZ (c::m') 1=33/\zZ (c::m') 2=45/\zZ (c::m') 3=45
        . have g:_:=(ziW h60).mpr h3
          rw[if_pos h3,if_pos g]
          have hk:4<=(c::m').length:=by omega
          obtain⟨e1,e2⟩:=zlo (m:=c::m') (k:=4) (e:=[45,45,62]) hk
          have hle:=(zct (l:=c::m') (k:=4) (e:=[45,45,62]) hk).2
          refine⟨?_,zfN (by show(4:Nat)≠3;decide),?_⟩
          . show tokQ _ _=tokQ (zP _ []) _
            rw[zcl,e2]
            rw[show(zb9 (c::m') 4 [45,45,62]).1=(zbd (c::m') 4 [45,45,62]).1 by rw[e1]]
            rfl
          . show(zbd (c::m') 4 [45,45,62]).2.length < _
            rw[e2,List.length_drop]
            omega
        have g3:=fun g=>h3 ((ziW h60).mp g)
        rw[if_neg h3,if_neg g3]
        by_cases h4:(zZ (c::m') 1=47/\2 < (c::m').length)\/zZ (c::m') 1=33\/zZ (c::m') 1=63
        . have g:_:=(zln h60).mpr h4
          rw[if_pos h4,if_pos g]
          have hk:2<=(c::m').length:=by
            cases m' with
            | nil=>exfalso;rcases h4 with h4 | h4 | h4<;>simp [zZ]at h4
            | cons d r=>rw[List.length_cons,List.length_cons];omega
          obtain⟨e1,e2⟩:=zlo (m:=c::m') (k:=2) (e:=[62]) hk
          have hle:=(zct (l:=c::m') (k:=2) (e:=[62]) hk).2
          refine⟨?_,zfN (by show(4:Nat)≠3;decide),?_⟩
          . show tokQ _ _=tokQ (zP _ []) _
            rw[zcl,e2]
            rw[show(zb9 (c::m') 2 [62]).1=(zbd (c::m') 2 [62]).1 by rw[e1]]
            rfl
          . show(zbd (c::m') 2 [62]).2.length < _
            rw[e2,List.length_drop]
            omega
        have g4:=fun g=>h4 ((zln h60).mp g)
        rw[if_neg h4,if_neg g4]
        -- the < itself
        have hd:decE ((c::m').take (1+ltT m'))=[c]++ decE (m'.take (ltT m')):=by
          rw[show 1+ltT m'=ltT m'+1 by omega,List.take_succ_cons]
          refine zoV ?_ h60
          have:=hin.take (ltT m'+1)
          rw[List.take_succ_cons]at this
          exact this
        have hne:decE ((c::m').take (1+ltT m'))≠[]:=by rw[hd];simp
        refine⟨?_,zfM hok hne,?_⟩
        . show tokQ _ _=tokQ (zP toks (ps++ [_])) _
          rw[List.tail_cons,<-zcK hok hne,hd,show 1+ltT m'=ltT m'+1 by omega,List.drop_succ_cons]
          show tokQ (zbD (zP toks ps) [c]) m'=_
          rw[zer]
          congr 1
          by_cases hz:decE (m'.take (ltT m'))=[]
          . rw[hz,zcw,List.append_nil]
          . exact zll (by simp) hz
        . show(List.drop _ (c::m')).length < _
          rw[List.length_drop,List.length_cons];omega
    . -- another byte
      have hat:zaf (c::m')=false:=by unfold zaf;rw[zbP h60 []];rfl
      unfold zaD
      rw[hat,zbP h60 _,zbP h60 _,zbP h60 _,zbP h60 _,zbP h60 _]
      simp only[Bool.false_eq_true,if_false,Bool.false_and,Bool.or_self]
      rw[List.tail_cons,show 1+ltT m'=ltT (c::m') by rw[zeq h60];omega]
      have hne:decE ((c::m').take (ltT (c::m')))≠[]:=zoU (by rw[zeq h60,List.take_succ_cons];simp)
      refine⟨?_,zfM hok hne,?_⟩
      . rw[zer,zcK hok hne]
      . rw[List.length_drop,zeq h60,List.length_cons];omega
def toKP(t:PTok):KP:=⟨(t.kind:Int),t.name,t.attrs,t.text⟩
def zlq(l:Ch):List PT:=zcU ((zhR (rep (zO l))).map toKP)
def szT(l:List PTok):Nat:=kbL (l.map toKP)
theorem zbf(a b:List PTok):szT (a++ b)=szT a+szT b:=by unfold szT kbL;rw[List.map_append,List.map_append,List.sum_append]
theorem zes(t:PTok):szT [t]=t.name.length+t.attrs.length+t.text.length+1:=rfl
theorem zjG(l:Ch):(zE l).1.length+(zE l).2.length<=l.length:=by
  induction l using zbO with
  | nil=>rw[zaM];exact Nat.le_refl _
  | cons c l ih=>
    by_cases h:c.1=62
    . rw[za1 h];exact Nat.le_of_eq (Nat.zero_add _)
    . have:=ih h
      have h1:=zaI spsB (zW c l).2
      have h2:=zcu c l
      rw[zaJ h]
      simp only[List.length_cons]
      omega
theorem zlr{m r:Ch}{t:PTok}(hm:m≠[])(h:tagQ m=some (t,r)):t.name.length+t.attrs.length+r.length+1<=m.length/\t.text=[]:=by
  unfold tagQ at h
  split at h
  . cases h
  . injection h with h
    injection h with ht h
    have h1:=zjG (zo spsB (zH endT (zo (· == 47) m.tail)))
    have h2:=zaI spsB (zH endT (zo (· == 47) m.tail))
    have h3:=congrArg List.length (zaB endT (zo (· == 47) m.tail))
    rw[List.length_append]at h3
    have h4:=zaI (· == 47) m.tail
    have h5:0 < m.length:=List.length_pos_iff.2 hm
    rw[List.length_tail]at h4
    have h6:r.length<=(zE (zo spsB (zH endT (zo (· == 47) m.tail)))).2.length:=by rw[<-h,List.length_tail];omega
    have h7:(lowL (zr endT (zo (· == 47) m.tail))).length=(zr endT (zo (· == 47) m.tail)).length:=zek _
    rw[<-ht]
    split
    . refine⟨?_,rfl⟩
      show(lowL _).length+0+r.length+1<=_
      omega
    . refine⟨?_,rfl⟩
      show(lowL _).length+(zag _).length+r.length+1<=_
      have h8:(zag ((zE (zo spsB (zH endT (zo (· == 47) m.tail)))).1.map zcJ)).length<=(zE (zo spsB (zH endT (zo (· == 47) m.tail)))).1.length:=by
        refine Nat.le_trans (zfC _ _) ?_
        rw[List.length_map]
        exact Nat.le_refl _
      omega
theorem zls{m:Ch}{t:PTok}{k:Nat}(h:tagP m=some (t,k)):t.name.length+t.attrs.length+1<=k/\t.text=[]:=by
  cases ha:zaf m with
  | false=>rw[zoT ha]at h;cases h
  | true=>
    have hm:m≠[]:=fun e=>by rw[e]at ha;exact absurd ha (by decide)
    rw[zlj ha]at h
    cases hq:tagQ m with
    | none=>rw[hq]at h;cases h
    | some x=>
      obtain⟨t',r⟩:=x
      rw[hq]at h
      injection h with h
      injection h with e1 e2
      subst e1
      have:=zlr hm hq
      refine⟨?_,this.2⟩
      simp only at e2 ⊢
      omega
theorem zdl(out:List PTok)(d:Ch):szT (zbD out d)<=szT out+2 * d.length:=by
  unfold zbD
  by_cases hd:d=[]
  . rw[if_pos hd];omega
  . rw[if_neg hd]
    have hp:0 < d.length:=List.length_pos_iff.2 hd
    have hone:szT [⟨3,[],[],false,d⟩]=d.length+1:=by rw[zes];show 0+0+d.length+1=_;omega
    rcases List.eq_nil_or_concat out with e | ⟨o,x,e⟩
    . subst e
      show szT [⟨3,[],[],false,d⟩]<=_
      omega
    . rw[List.concat_eq_append]at e
      subst e
      rw[List.getLast?_concat,List.dropLast_concat]
      simp only
      split
      . rw[zbf,zbf,zes,zes]
        show szT o+(0+0+(x.text++ d).length+1)<=_
        rw[List.length_append]
        omega
      . rw[zbf,zbf,hone];omega
theorem zjH{l:Ch}{k:Nat}{e:List UInt8}(hk2:2<=k)(he:1<=e.length)(hk:k<=l.length):(zb9 l k e).1.length+2<=(zb9 l k e).2:=by
  unfold zb9
  by_cases hf:zdI (l.map (·.1)) e (k:Int) < 0
  . rw[if_pos hf]
    simp only[List.length_drop]
    omega
  . rw[if_neg hf]
    have hkm:k<=(l.map (·.1)).length:=by rw[List.length_map];exact hk
    have h:=(ze5 hkm hf).1
    generalize zdI (l.map (·.1)) e (k:Int)=q at *
    simp only[List.length_drop,List.length_take]
    omega
theorem zjI{out out':List PTok}{l l':Ch}(hl:l≠[])(h:zel out l=some (out',l')):szT out'+3 * l'.length<=szT out+3 * l.length:=by
  have hp:0 < l.length:=List.length_pos_iff.2 hl
  have h2:∀ i:Nat,zZ l i≠0->i < l.length:=by
    intro i hi
    rcases Nat.lt_or_ge i l.length with h | h
    . exact h
    . exfalso;apply hi;unfold zZ;rw[List.getElem?_eq_none h];rfl
  have hcm:∀ (k:Nat) (e:List UInt8),2<=k->1<=e.length->k<=l.length->szT (out++ [⟨4,[],[],false,(zb9 l k e).1⟩])+3 * (l.drop (zb9 l k e).2).length<=szT out+3 * l.length:=fun k e hk2 he hk=>by
    have h3:=zct (l:=l) (k:=k) (e:=e) hk
    have h4:=zjH hk2 he hk
    rw[zbf,zes,List.length_drop]
    generalize zb9 l k e=q at *
    show szT out+(0+0+q.1.length+1)+_<=_
    omega
  unfold zel at h
  split at h
  . cases ht:tagP l with
    | none=>rw[ht]at h;cases h
    | some x=>
      obtain⟨t,k⟩:=x
      rw[ht]at h
      have hk:=zlc ht
      have hs:=zls ht
      have e1:szT (out++ [t])<=szT out+k:=by rw[zbf,zes,hs.2,List.length_nil];omega
      simp only at h
      split at h
      . injection h with h;injection h with ho h
        have h3:=zdl (out++ [t]) ((l.drop k).take (rawT (t.name.map (·.1)) (l.drop k)))
        have h4:=zfK (t.name.map (·.1)) (l.drop k)
        rw[List.length_drop]at h4
        rw[List.length_take,List.length_drop]at h3
        rw[<-h,<-ho,List.length_drop,List.length_drop]
        omega
      . injection h with h;injection h with ho h
        rw[<-h,<-ho,List.length_drop];omega
  . split at h
    . injection h with h;injection h with ho h
      rw[<-h,<-ho,List.length_drop];omega
    . split at h
      . rename_i h3
        injection h with h;injection h with ho h
        rw[<-h,<-ho]
        exact hcm 4 _ (by omega) (by decide) (by omega)
      . split at h
        . rename_i h3
          injection h with h;injection h with ho h
          have:2<=l.length:=by
            rcases h3 with h3 | h3 | h3
            . omega
            . have:=h2 1 (by rw[h3];decide);omega
            . have:=h2 1 (by rw[h3];decide);omega
          rw[<-h,<-ho]
          exact hcm 2 _ (by omega) (by decide) this
        . injection h with h;injection h with ho h
          have h3:=zdl out (l.take 1)
          rw[List.length_take]at h3
          rw[<-h,<-ho,List.length_drop];omega
theorem zlt:∀ (f:Nat) (out:List PTok) (l:Ch),szT (tokR f out l)<=szT out+3 * l.length:=by
  intro f
  induction f with
  | zero=>intro out l;rw[tokR];omega
  | succ f ih=>
    intro out l
    rw[tokR]
    have h1:=zdl out (decE (l.take (ltT l)))
    have h2:=zdO (l.take (ltT l))
    rw[List.length_take]at h2
    have h3:=zlb l
    split
    . omega
    . split
      . omega
      . rename_i hl hd
        cases hm:zel (zbD out (decE (l.take (ltT l)))) (l.drop (ltT l)) with
        | none=>show szT (zbD _ _)<=_;omega
        | some x=>
          obtain⟨o',l'⟩:=x
          show szT (tokR f o' l')<=_
          have h4:=ih o' l'
          have h5:=zjI hd hm
          rw[List.length_drop]at h5
          omega
theorem zjJ(l:Ch):kbL ((zhR l).map toKP)<=3 * l.length:=by
  have h:=zlt (l.length+1) [] l
  have e:szT ([]:List PTok)=0:=rfl
  show szT (tokR _ _ _)<=_
  omega
theorem zaV:∀ l:Ch,(zO l).length<=l.length
  | []=>Nat.le_refl _
  | [(b,o)]=>by rw[zO];exact Nat.le_refl _
  | (b,o)::(c,p)::t=>by
    have h1:=zaV t
    have h2:=zaV ((c,p)::t)
    rw[zO]
    split
    . rw[List.length_cons,List.length_cons,List.length_cons];omega
    . rw[List.length_cons,List.length_cons];omega
theorem InR.lines:∀ {l:Ch},InR l->InR (zO l)
  | [],h=>h
  | [(b,o)],h=>by
    rw[zO]
    intro x hx
    exact h x hx
  | (b,o)::(c,p)::t,h=>by
    have ho:=h o (by simp)
    have hp:=h p (by simp)
    have ht:InR t:=fun x hx=>h x (by simp only[List.map_cons,List.mem_cons];exact .inr (.inr hx))
    have h1:=InR.lines ht
    have h2:=InR.lines (l:=(c,p)::t) (fun x hx=>h x (by simp only[List.map_cons,List.mem_cons]at hx ⊢;exact .inr hx))
    rw[zO]
    split
    . intro x hx
      rw[List.map_cons]at hx
      rcases List.mem_cons.1 hx with e | hx
      . rw[e];show 0<=max o p/\max o p<=65536;omega
      . exact h1 x hx
    . intro x hx
      rw[List.map_cons]at hx
      rcases List.mem_cons.1 hx with e | hx
      . rw[e];exact ho
      . exact h2 x hx
theorem znp(l:Ch)(h:zb5 (l.map (·.1))=true):rep l=l:=by
  have key:∀ n,∀ l:Ch,l.length<=n->zb5 (l.map (·.1))=true->rep l=l:=by
    intro n
    induction n with
    | zero=>
      intro l hl _
      have e:l=[]:=List.eq_nil_of_length_eq_zero (by omega)
      rw[e,zcH]
    | succ n ih=>
      intro l hl h
      by_cases hn:l=[]
      . rw[hn,zcH]
      . have hm:l.map (·.1)≠[]:=fun e=>hn (List.map_eq_nil_iff.1 e)
        rw[zdU hm]at h
        have hs:zaj (l.map (·.1))=false:=by
          cases hq:zaj (l.map (·.1)) with
          | false=>rfl
          | true=>rw[hq]at h;exact absurd h (by simp)
        rw[hs]at h
        have h2:zb5 ((l.drop (nx (l.map (·.1))).1).map (·.1))=true:=by rw[List.map_drop];simpa using h
        have hb:=(zeE hm).1
        have h3:=ih (l.drop (nx (l.map (·.1))).1) (by rw[List.length_drop];have:0 < l.length:=List.length_pos_iff.2 hn;omega) h2
        rw[zcc hn hs,h3,List.take_append_drop]
  exact key l.length l (Nat.le_refl _) h
theorem zet:∀ (l:Ch),(∀ c∈l,c.1≠13)->zO l=l
  | [],_=>by rw[zO]
  | (b,o)::t,h=>by
    have hb:b≠13:=h (b,o) (List.mem_cons_self ..)
    rw[zdA (fun⟨_,_,e,_⟩=>hb e),zet t (fun c hc=>h c (List.mem_cons_of_mem _ hc))]
    unfold lfB
    rw[if_neg hb]
theorem zjK{l:Ch}(h:zb5 (l.map (·.1))=true)(h13:∀ c∈l,c.1≠13):zlq l=zcU ((zhR l).map toKP):=by
  unfold zlq
  rw[zet l h13,znp l h]
end Go.Proofs.YtddgabjhligeeaaGreat.mk
