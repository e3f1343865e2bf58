import Derived.Test.YtddgabjhligeeaaGreatJnX
import Derived.Test.YtddgabjhligeeaaGreatJnAF
set_option maxHeartbeats 1000000
set_option maxRecDepth 100000
namespace Go.Proofs.YtddgabjhligeeaaGreat.mk
open Go.RowKit
def letB(b:UInt8):Bool:=(decide (97<=b.toNat) && decide (b.toNat<=122)) || (decide (65<=b.toNat) && decide (b.toNat<=90))
def spcB(b:UInt8):Bool:=[9,10,12,32].contains b
def lowL(l:Ch):Ch:=l.map fun x=>(lowB x.1,x.2)
theorem zek(l:Ch):(lowL l).length=l.length:=by unfold lowL;rw[List.length_map]
def zaG(st:Nat)(c:UInt8)(begun:Bool):Nat × Bool × Bool:=
  if st=1 then
    (if begun && (spcB c || (c == 47 || c == 62)) then (2,false,true) else if begun && c == 61 then (3,false,false) else (1,true,false))
  else if st=2 then (if spcB c then (2,false,false) else if c == 61 then (3,false,false) else (0,false,true))
  else if st=3 then (if spcB c then (3,false,false) else if c == 34 then (4,false,false) else if c == 39 then (5,false,false) else (6,false,true))
  else if st=4\/st=5 then (if (st=4/\c=34)\/(st=5/\c=39) then (0,false,false) else (st,true,false))
  else if st=6 then (if spcB c || c == 62 then (0,false,true) else (6,true,false))
  else (if c == 62 then (99,false,false) else if spcB c || c == 47 then (0,false,false) else (1,false,true))
def putT(l:List PA)(a:PA):List PA:=if l.any fun p=>nmB p == nmB a then l else l++ [a]
def zci(l:List PA)(a:PA):List PA:=if a.1=[] then l else putT l (lowL a.1,decE a.2)
structure TkS where
  st:Nat
  nm:Ch
  vl:Ch
  al:List PA
def zcj(s:TkS)(c:UInt8 × Int)(n:Nat × Bool × Bool):TkS:=
  let nm:=if n.1=1/\s.st=0 then [] else s.nm
  let vl:=if n.1=1/\s.st=0 then [] else s.vl
  ⟨n.1,if n.2.1=true/\n.1=1 then nm++ [c] else nm,if n.2.1=true/\n.1≠1 then vl++ [c] else vl,if n.1=1/\s.st=0 then zci s.al (s.nm,s.vl) else s.al⟩
def zjy(s:TkS)(c:UInt8 × Int):Nat × Bool × Bool:=zaG s.st c.1 (!s.nm.isEmpty)
def runT(l:Ch):Nat->Nat->TkS->Option (Nat × TkS)
  | 0,_,_=>none
  | f+1,i,s=>
    match l[i]? with
    | none=>none
    | some c=>if (zjy s c).1=99 then some (i,s) else runT l f (if (zjy s c).2.2 then i else i+1) (zcj s c (zjy s c))
structure PTok where
  kind:Nat
  name:Ch
  attrs:List PA
  close:Bool
  text:Ch
def zk9(l:Ch):Nat:=(l.takeWhile fun c=>!(spcB c.1) && (!(c.1 == 47) && !(c.1 == 62))).length
def zaN(l:Ch):Nat:=if (l.map (·.1)).take 2=[60,47] then 2 else 1
def tagP(l:Ch):Option (PTok × Nat):=
  match l[zaN l]? with
  | none=>none
  | some b=>
    if (l.map (·.1)).take 1=[60]/\letB b.1=true then
      match runT l (4 * l.length+9) (zaN l+zk9 (l.drop (zaN l))) ⟨0,[],[],[]⟩ with
      | none=>none
      | some (j,s)=>some (⟨zaN l,lowL ((l.drop (zaN l)).take (zk9 (l.drop (zaN l)))),if zaN l=1 then zci s.al (s.nm,s.vl) else [],decide (zaN l=1) && ((l[j - 1]?).map (·.1) == some 47),[]⟩,j+1)
    else none
def zbD(out:List PTok)(l:Ch):List PTok:=
  if l=[] then out else
    match out.getLast? with
    | some x=>if x.kind=3 then out.dropLast++ [⟨3,[],[],false,x.text++ l⟩] else out++ [⟨3,[],[],false,l⟩]
    | none=>[⟨3,[],[],false,l⟩]
def zdh(l:Ch)(name:List UInt8):Bool:=
  match l[name.length+2]? with
  | none=>false
  | some c=>(spcB c.1 || (c.1 == 47 || c.1 == 62)) && ((lowL (l.take (name.length+2))).map (·.1) == [60,47]++ name)
def rawT(name:List UInt8):Ch->Nat
  | []=>0
  | c::l=>if zdh (c::l) name then 0 else rawT name l+1
def zb9(l:Ch)(skip:Nat)(e:List UInt8):Ch × Nat:=
  if zdI (l.map (·.1)) e (skip:Int) < 0 then (l.drop skip,l.length)
  else ((l.take (zdI (l.map (·.1)) e (skip:Int)).toNat).drop skip,(zdI (l.map (·.1)) e (skip:Int)).toNat+e.length)
def ltT(l:Ch):Nat:=(l.takeWhile fun c=>!(c.1 == 60)).length
def zZ(l:Ch)(i:Nat):UInt8:=((l[i]?).map (·.1)).getD 0
def zel(out:List PTok)(l:Ch):Option (List PTok × Ch):=
  if letB (zZ l 1) || (zZ l 1 == 47 && letB (zZ l 2)) then
    match tagP l with
    | none=>none
    | some (t,k)=>
      if t.kind=1/\(t.name.map (·.1)=[115,99,114,105,112,116]\/t.name.map (·.1)=[115,116,121,108,101]) then
        some (zbD (out++ [t]) ((l.drop k).take (rawT (t.name.map (·.1)) (l.drop k))),(l.drop k).drop (rawT (t.name.map (·.1)) (l.drop k)))
      else some (out++ [t],l.drop k)
  else if zZ l 1=47/\zZ l 2=62 then some (out,l.drop 3)
  else if 3 < l.length/\zZ l 1=33/\zZ l 2=45/\zZ l 3=45 then some (out++ [⟨4,[],[],false,(zb9 l 4 [45,45,62]).1⟩],l.drop (zb9 l 4 [45,45,62]).2)
  else if (zZ l 1=47/\2 < l.length)\/zZ l 1=33\/zZ l 1=63 then some (out++ [⟨4,[],[],false,(zb9 l 2 [62]).1⟩],l.drop (zb9 l 2 [62]).2)
  else some (zbD out (l.take 1),l.drop 1)
def tokR:Nat->List PTok->Ch->List PTok
  | 0,out,_=>out
  | f+1,out,l=>
    if l=[] then out
    else if l.drop (ltT l)=[] then zbD out (decE (l.take (ltT l)))
    else match zel (zbD out (decE (l.take (ltT l)))) (l.drop (ltT l)) with
      | none=>zbD out (decE (l.take (ltT l)))
      | some (out',l')=>tokR f out' l'
def zhR(l:Ch):List PTok:=tokR (l.length+1) [] l
def zpA(base:Int)(l:List UInt8)(v d:Value):Prop:=
  ∃ k:Nat,k<=l.length/\v=.int .i64 (valC 1114112 base (l.take k))/\d=.int .i64 (k:Int)/\∀ y∈l.take k,digV base y=true
theorem zoJ{base:Int}(hb:1<=base){l:List UInt8}(h:∀ b∈l,digV base b=true):0<=valC 1114112 base l/\valC 1114112 base l<=1114112:=by
  have:=zk5 (top:=1114112) (by omega) hb l h
  omega
theorem ze4(s:ByteArray)(base:Int)(hb:base=10\/base=16)(hs:s.size<=4294967296)(w:World) :
    Calls Tryz.prog 195 #[.string s,.int .i64 base] w fun e w'=>e=.returned (.tuple #[.int .i64 (valC 1114112 base (s.data.toList.take (zaQ s.data.toList (digV base)))),.int .i64 (zaQ s.data.toList (digV base))])/\w=w':=by
  have hsl:s.data.toList.length=s.size:=by rw[Array.length_toList];rfl
  have HSL:=Lib.hid hsl
  clear hsl
  have hb1:1<=base:=by omega
  have hb2:base<=16:=by omega
  have HB1:=Lib.hid hb1
  have HB2:=Lib.hid hb2
  clear hb
  go_enter Tryz.func195,Tryz.ntmps195
  go_wp2_with fail
  go_loop [4,5] (zpA base s.data.toList) (fun _ i=>s.size - (intOf i).toNat)
  case atStart=>exact⟨0,Nat.zero_le _,rfl,rfl,by simp⟩
  case round=>
    obtain⟨k,hk,rfl,rfl,hall⟩:=hrel
    rw[HSL.out]at hk
    have hvb:=zoJ HB1.out hall
    have HALL:=Lib.hid hall
    clear hall
    have hk0:(0:Int)<=(k:Int):=Int.natCast_nonneg _
    by_cases hlt:k < s.size
    . have hk1:(k:Int) < (s.size:Int):=by omega
      have HSK:Hid (s.data.toList[k]?=some (s[k]'hlt)):=by
        show _=_
        rw[List.getElem?_eq_getElem (by rw[HSL.out];exact hlt)]
        rfl
      have HNX:Hid (s.data.toList.take (k+1)=s.data.toList.take k++ [s[k]'hlt]):=zw HSK.out
      generalize hsk:s[k]'hlt=x at *
      have hxb:=zor x
      cases hq:digV base x with
      | true=>
        have hv:=zk4 hq
        have HV:Hid (valC 1114112 base (s.data.toList.take (k+1))=min (valC 1114112 base (s.data.toList.take k) * base+hexB x) 1114112):=by show _=_;rw[HNX.out,zgJ]
        have HA2:Hid (∀ y∈s.data.toList.take (k+1),digV base y=true):=by
          intro y hy
          rw[HNX.out]at hy
          rcases List.mem_append.1 hy with hy | hy
          . exact HALL.out y hy
          . simp at hy;subst hy;exact hq
        generalize valC 1114112 base (s.data.toList.take k)=n at *
        obtain⟨hn0,hn1⟩:=hvb
        have hm0:0<=n * base:=Int.mul_nonneg hn0 (by omega)
        have hm1:n * base<=1114112 * base:=Int.mul_le_mul_of_nonneg_right hn1 (by omega)
        have hm2:n * base<=17825792:=by omega
        clear hm1 hq
        obtain⟨hv0,hv1⟩:=hv
        have hv2:¬ hexB x < 0:=by omega
        have hv3:¬ base<=hexB x:=by omega
        go_wp2_with fail
        refine(zkt x _).mono ?_
        rintro e w' ⟨rfl,rfl⟩
        generalize hexB x=v at *
        go_wp2_with fail
        go_round
        case rel=>exact⟨k+1,by rw[HSL.out];omega,by rw[HV.out],by go_num,HA2.out⟩
        case measure=>simp [intOf];omega
      | false=>
        have HR:Hid (zaQ s.data.toList (digV base)=k):=zc3 HALL.out HSK.out hq
        have hv:hexB x < 0\/base<=hexB x:=by
          unfold digV at hq
          rcases Int.lt_or_le (hexB x) 0 with h | h
          . exact .inl h
          . right
            rw[decide_eq_true h,Bool.true_and,decide_eq_false_iff_not]at hq
            omega
        generalize hvc:valC 1114112 base (s.data.toList.take k)=n at *
        have HVC:=Lib.hid hvc
        clear hvc hq
        go_wp2_with fail
        refine(zkt x _).mono ?_
        rintro e w' ⟨rfl,rfl⟩
        generalize hexB x=v at *
        rcases hv with hv | hv
        . go_wp2_with fail
          go_ret2
          exact⟨by rw[HR.out,HVC.out];rfl,rfl⟩
        . by_cases hv0:v < 0
          . omega
          . go_wp2_with fail
            go_ret2
            exact⟨by rw[HR.out,HVC.out];rfl,rfl⟩
    . obtain rfl:k=s.size:=by omega
      have HR:Hid (zaQ s.data.toList (digV base)=s.size):=by
        show _=_
        rw[<-HSL.out]
        refine zgf (fun y hy=>HALL.out y ?_)
        rw[List.take_of_length_le (by rw[HSL.out];exact Nat.le_refl _)]
        exact hy
      generalize hvc:valC 1114112 base (s.data.toList.take s.size)=n at *
      have HVC:=Lib.hid hvc
      clear hvc
      go_wp2_with fail
      go_ret2
      exact⟨by rw[HR.out,HVC.out];rfl,rfl⟩
def nmC(inner nm:List UInt8):Bool:=inner.take (nm.length+1) == nm++ [59]
def zeK:List (List UInt8 × Int):=[([35],10),([35,120],16),([35,88],16)]
def rsF(inner bg:List UInt8):List UInt8:=inner.drop bg.length
def dgF(inner bg:List UInt8)(base:Int):Nat:=zaQ (rsF inner bg) (digV base)
def fmC(inner bg:List UInt8)(base:Int):Bool:=(inner.take bg.length == bg) && decide (0 < dgF inner bg base) && (((rsF inner bg).drop (dgF inner bg base)).take 1 == [59])
theorem ziQ(l:List UInt8)(p:UInt8->Bool):zaQ l p<=l.length:=by
  unfold zaQ
  conv=>rhs;rw[<-List.takeWhile_append_dropWhile (p:=p) (l:=l)]
  rw[List.length_append]
  omega
theorem zjz(l:List UInt8)(p:UInt8->Bool):∀ b∈l.take (zaQ l p),p b=true:=by
  unfold zaQ
  induction l with
  | nil=>intro b hb;cases hb
  | cons x l ih=>
    intro b hb
    rw[List.takeWhile_cons]at hb
    cases hx:p x with
    | true=>
      rw[hx]at hb
      simp only[if_true,List.length_cons,List.take_succ_cons]at hb
      rcases List.mem_cons.1 hb with rfl | hb
      . exact hx
      . exact ih b hb
    | false=>rw[hx]at hb;simp at hb
theorem zgQ(base:Int):digV base 59=false:=by
  unfold digV
  rw[show hexB 59=-1 from by decide]
  rfl
theorem zoK{base:Int}{b:UInt8}(h:digV base b=true):(b != 59)=true:=by
  rw[bne_iff_ne]
  intro e
  subst e
  rw[zgQ]at h
  cases h
theorem znj{l:List UInt8}(h:(l.take 1 == [59])=true):∃ r,l=59::r:=by
  cases l with
  | nil=>simp at h
  | cons x r=>simp at h;subst h;exact⟨r,rfl⟩
theorem znk{inner nm:List UInt8}{k:Nat}{c:Int}(hk:nameL[k]?=some (nm,c))(h:nmC inner nm=true):zbM (38::inner)=some (c,nm.length+2):=by
  unfold nmC at h
  have e:inner=nm++ 59::inner.drop (nm.length+1):=by
    conv=>lhs;rw[<-List.take_append_drop (nm.length+1) inner]
    rw[beq_iff_eq.1 h,List.append_assoc]
    rfl
  rw[e]
  exact ziO (ziL hk).1 (zgN hk)
theorem ziR{k:Nat}{bg:List UInt8}{base:Int}(hk:zeK[k]?=some (bg,base)):(∀ x∈bg,(x != 59)=true)/\(base=10\/base=16)/\bg.length<=2:=by
  match k,hk with
  | 0,h=>cases h;decide
  | 1,h=>cases h;decide
  | 2,h=>cases h;decide
  | k+3,h=>simp [zeK]at h
theorem zgR{k:Nat}{bg u:List UInt8}{base:Int}(hk:zeK[k]?=some (bg,base))(h1:u≠[])(h2:∀ b∈u,digV base b=true):zbb (bg++ u)=some (valD base u):=by
  match k,hk with
  | 0,h=>cases h;exact(zcf u).trans (zne h1 h2)
  | 1,h=>cases h;exact(zcf (120::u)).trans (ziM (.inl rfl) h1 h2)
  | 2,h=>cases h;exact(zcf (88::u)).trans (ziM (.inr rfl) h1 h2)
  | k+3,h=>simp [zeK]at h
theorem znl{inner bg:List UInt8}{k:Nat}{base:Int}(hk:zeK[k]?=some (bg,base))(h:fmC inner bg base=true) :
    zbM (38::inner)=some (valD base ((rsF inner bg).take (dgF inner bg base)),bg.length+dgF inner bg base+2)/\(∀ b∈(rsF inner bg).take (dgF inner bg base),digV base b=true):=by
  unfold fmC at h
  simp only[Bool.and_eq_true,decide_eq_true_eq]at h
  obtain⟨⟨h1,h2⟩,h3⟩:=h
  have hd:=zjz (rsF inner bg) (digV base)
  have hle:=ziQ (rsF inner bg) (digV base)
  have e1:inner=bg++ rsF inner bg:=by
    conv=>lhs;rw[<-List.take_append_drop bg.length inner]
    rw[beq_iff_eq.1 h1]
    rfl
  obtain⟨r,hr⟩:=znj h3
  have e2:rsF inner bg=(rsF inner bg).take (dgF inner bg base)++ 59::r:=by
    conv=>lhs;rw[<-List.take_append_drop (dgF inner bg base) (rsF inner bg)]
    rw[hr]
  unfold dgF at h2 e2 ⊢
  refine⟨?_,hd⟩
  clear h1 h3 hr
  generalize rsF inner bg=rs at *
  have hul:(rs.take (zaQ rs (digV base))).length=zaQ rs (digV base):=by rw[List.length_take];omega
  have hne:rs.take (zaQ rs (digV base))≠[]:=by intro e;rw[e]at hul;simp at hul;omega
  have hno:∀ x∈bg++ rs.take (zaQ rs (digV base)),(x != 59)=true:=by
    intro x hx
    rcases List.mem_append.1 hx with hx | hx
    . exact(ziR hk).1 x hx
    . exact zoK (hd x hx)
  have hR:=ziO (r:=r) hno (zgR hk hne hd)
  rw[List.append_assoc,<-e2,<-e1,List.length_append,hul]at hR
  exact hR
theorem zjA{inner:List UInt8}(h1:∀ (k:Nat) (nm:List UInt8) (c:Int),nameL[k]?=some (nm,c)->nmC inner nm=false)(h2:∀ (k:Nat) (bg:List UInt8) (base:Int),zeK[k]?=some (bg,base)->fmC inner bg base=false):zbM (38::inner)=none:=by
  cases hr:zbM (38::inner) with
  | none=>rfl
  | some p=>
    exfalso
    obtain⟨n,z⟩:=p
    obtain⟨b,r,e,hno,hs,_⟩:=ze3 hr
    injection e with _ e
    cases hn:zgK b with
    | some m=>
      obtain⟨k,_,hk⟩:=zdc hn
      have h:=h1 k b m hk
      unfold nmC at h
      rw[beq_eq_false_iff_ne]at h
      refine h ?_
      rw[e,show b++ 59::r=(b++ [59])++ r by simp,List.take_left' (by simp)]
    | none=>
      unfold zbb at hs
      rw[hn]at hs
      obtain⟨bg,u,base,hb,eb,hu,hd,_⟩:=zgM hs
      have hk:∃ k:Nat,zeK[k]?=some (bg,base):=by
        rcases hb with hb | hb | hb
        . exact⟨0,by rw[hb];rfl⟩
        . exact⟨1,by rw[hb];rfl⟩
        . exact⟨2,by rw[hb];rfl⟩
      obtain⟨k,hk⟩:=hk
      have h:=h2 k bg base hk
      have ei:inner=bg++ (u++ 59::r):=by rw[e,eb,List.append_assoc]
      have e3:rsF inner bg=u++ 59::r:=by unfold rsF;rw[ei,List.drop_left' rfl]
      have e4:dgF inner bg base=u.length:=by
        unfold dgF
        rw[e3]
        refine zc3 (x:=59) (fun y hy=>?_) ?_ (zgQ base)
        . rw[List.take_left' rfl]at hy;exact hd y hy
        . rw[List.getElem?_append_right (Nat.le_refl _)];simp
      unfold fmC at h
      rw[e4,e3,List.drop_left' rfl,ei,List.take_left' rfl,beq_self_eq_true,decide_eq_true (List.length_pos_iff.2 hu)]at h
      simp at h
def zem:Array Value:=#[.string ⟨#[97,109,112]⟩,.int .i64 38,.string ⟨#[108,116]⟩,.int .i64 60,.string ⟨#[103,116]⟩,.int .i64 62,.string ⟨#[113,117,111,116]⟩,.int .i64 34,.string ⟨#[97,112,111,115]⟩,.int .i64 39,.string ⟨#[110,98,115,112]⟩,.int .i64 160]
def zgS:Array Value:=#[.string ⟨#[35]⟩,.int .i64 10,.string ⟨#[35,120]⟩,.int .i64 16,.string ⟨#[35,88]⟩,.int .i64 16]
theorem zeL(w:World):Calls Tryz.prog 192 #[] w fun e w'=>e=.returned (.agg zem)/\Below w.heap.size w w':=by
  go_enter Tryz.func192,Tryz.ntmps192
  go_wp2_with fail
  exact bodyPost_ret (results_cell_row Tryz.results192 _ _ w.heap.size 195 zem (0,0) _ rfl (Whole.made w _ zem) Tryz.underlying195 rfl (by as_aux_lemma=>kernel_rfl)) rfl ⟨rfl,(Below.refl _ _).alloc (Nat.le_refl _) _⟩
theorem zla(w:World):Calls Tryz.prog 194 #[] w fun e w'=>e=.returned (.agg zgS)/\Below w.heap.size w w':=by
  go_enter Tryz.func194,Tryz.ntmps194
  go_wp2_with fail
  exact bodyPost_ret (results_cell_row Tryz.results194 _ _ w.heap.size 200 zgS (0,0) _ rfl (Whole.made w _ zgS) Tryz.underlying200 rfl (by as_aux_lemma=>kernel_rfl)) rfl ⟨rfl,(Below.refl _ _).alloc (Nat.le_refl _) _⟩
theorem zpB(w:World):(Instr.index 195 (.agg zem) (.int .i64 0)).run Tryz.prog w=.ok (.agg #[.string ⟨#[97,109,112]⟩,.int .i64 38]) w:=by kernel_rfl
theorem zpC(w:World):(Instr.index 195 (.agg zem) (.int .i64 1)).run Tryz.prog w=.ok (.agg #[.string ⟨#[108,116]⟩,.int .i64 60]) w:=by kernel_rfl
theorem zpD(w:World):(Instr.index 195 (.agg zem) (.int .i64 2)).run Tryz.prog w=.ok (.agg #[.string ⟨#[103,116]⟩,.int .i64 62]) w:=by kernel_rfl
theorem zpE(w:World):(Instr.index 195 (.agg zem) (.int .i64 3)).run Tryz.prog w=.ok (.agg #[.string ⟨#[113,117,111,116]⟩,.int .i64 34]) w:=by kernel_rfl
theorem zpF(w:World):(Instr.index 195 (.agg zem) (.int .i64 4)).run Tryz.prog w=.ok (.agg #[.string ⟨#[97,112,111,115]⟩,.int .i64 39]) w:=by kernel_rfl
theorem zpG(w:World):(Instr.index 195 (.agg zem) (.int .i64 5)).run Tryz.prog w=.ok (.agg #[.string ⟨#[110,98,115,112]⟩,.int .i64 160]) w:=by kernel_rfl
theorem zpH(w:World):(Instr.index 200 (.agg zgS) (.int .i64 0)).run Tryz.prog w=.ok (.agg #[.string ⟨#[35]⟩,.int .i64 10]) w:=by kernel_rfl
theorem zpI(w:World):(Instr.index 200 (.agg zgS) (.int .i64 1)).run Tryz.prog w=.ok (.agg #[.string ⟨#[35,120]⟩,.int .i64 16]) w:=by kernel_rfl
theorem zpJ(w:World):(Instr.index 200 (.agg zgS) (.int .i64 2)).run Tryz.prog w=.ok (.agg #[.string ⟨#[35,88]⟩,.int .i64 16]) w:=by kernel_rfl
theorem zoL(k:Nat)(h:k < 6):∃ (nb:ByteArray) (c:Int),nameL[k]?=some (nb.data.toList,c)/\nb.size<=4/\∀ w:World,(Instr.index 195 (.agg zem) (.int .i64 (k:Int))).run Tryz.prog w=.ok (.agg #[.string nb,.int .i64 c]) w:=by
  obtain rfl | rfl | rfl | rfl | rfl | rfl:k=0\/k=1\/k=2\/k=3\/k=4\/k=5:=by omega
  . exact⟨_,_,rfl,by decide,zpB⟩
  . exact⟨_,_,rfl,by decide,zpC⟩
  . exact⟨_,_,rfl,by decide,zpD⟩
  . exact⟨_,_,rfl,by decide,zpE⟩
  . exact⟨_,_,rfl,by decide,zpF⟩
  . exact⟨_,_,rfl,by decide,zpG⟩
theorem zoM(k:Nat)(h:k < 3):∃ (nb:ByteArray) (c:Int),zeK[k]?=some (nb.data.toList,c)/\nb.size<=2/\∀ w:World,(Instr.index 200 (.agg zgS) (.int .i64 (k:Int))).run Tryz.prog w=.ok (.agg #[.string nb,.int .i64 c]) w:=by
  obtain rfl | rfl | rfl:k=0\/k=1\/k=2:=by omega
  . exact⟨_,_,rfl,by decide,zpH⟩
  . exact⟨_,_,rfl,by decide,zpI⟩
  . exact⟨_,_,rfl,by decide,zpJ⟩
end Go.Proofs.YtddgabjhligeeaaGreat.mk
