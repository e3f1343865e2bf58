import Derived.Test.YtddgabjhligeeaaGreatJoinAD
import Derived.Test.YtddgabjhligeeaaGreatJoinAG
namespace Go.Proofs.YtddgabjhligeeaaGreat.mk
open Go.RowKit
theorem zkM{v:Bool}{l:Ch}(r:Ch)(h:InR l):decE (escL v l++ r)=l++ decE r:=by
  induction l with
  | nil=>rfl
  | cons x l ih=>
    obtain⟨b,o⟩:=x
    have ho:0<=o:=(h o (by simp)).1
    have hr:InR l:=InR.drop h 1
    rw[zc0,List.append_assoc]
    have key:decE (escC v (b,o)++ (escL v l++ r))=(b,o)::decE (escL v l++ r):=by
      unfold escC escB
      simp only
      split
      . rename_i e;subst e
        exact zcj (b:=[97,109,112]) (n:=38) _ ho (by decide) (by decide+kernel) (by decide+kernel)
      . rename_i h38
        split
        . rename_i e;subst e
          exact zcj (b:=[108,116]) (n:=60) _ ho (by decide) (by decide+kernel) (by decide+kernel)
        . split
          . rename_i e;subst e
            exact zcj (b:=[103,116]) (n:=62) _ ho (by decide) (by decide+kernel) (by decide+kernel)
          . split
            . rename_i e;subst e
              exact zcj (b:=[35,49,51]) (n:=13) _ ho (by decide) (by decide+kernel) (by decide+kernel)
            . split
              . rename_i e
                obtain⟨rfl,_⟩:=e
                exact zcj (b:=[113,117,111,116]) (n:=34) _ ho (by decide) (by decide+kernel) (by decide+kernel)
              . have h2:=zd7 (l:=(b,o)::(escL v l++ r)) (b:=b) (o:=o) rfl ho (by rw[List.map_cons];exact zbW h38)
                exact h2
    rw[key,ih hr]
    rfl
theorem zfy{v:Bool}{l:Ch}{c:UInt8 × Int}(h:c∈escL v l):c.1≠60/\c.1≠62/\c.1≠13/\(v=true->c.1≠34):=by
  obtain⟨y,_,hc⟩:=List.mem_flatMap.1 h
  exact zsW v y.1 c.1 (zlo hc).1
theorem zed{p:UInt8->Bool}{a:Ch}{x:UInt8 × Int}{r:Ch}(ha:∀ c∈a,p c.1=false)(hx:p x.1=true):zy p (a++ x::r)=a/\zT p (a++ x::r)=x::r:=by
  unfold zy zT
  induction a with
  | nil=>
    rw[List.nil_append,List.takeWhile_cons_of_neg (by simp [hx]),List.dropWhile_cons_of_neg (by simp [hx])]
    exact⟨rfl,rfl⟩
  | cons b a ih=>
    have hb:p b.1=false:=ha b (List.mem_cons_self ..)
    have h2:=ih (fun c hc=>ha c (List.mem_cons_of_mem _ hc))
    rw[List.cons_append,List.takeWhile_cons_of_pos (by simp [hb]),List.dropWhile_cons_of_pos (by simp [hb]),h2.1,h2.2]
    exact⟨rfl,rfl⟩
theorem zpC{b:UInt8}(h:loN b.toNat=true):97<=b.toNat/\b.toNat<=122:=by
  unfold loN at h
  simpa using h
def zjJ(b:UInt8):Prop:=(97<=b.toNat/\b.toNat<=122)\/(48<=b.toNat/\b.toNat<=57)\/b.toNat=45
theorem zee{l:List UInt8}(h:tagH l=true):(∀ b∈l,zjJ b)/\∃ b t,l=b::t/\97<=b.toNat/\b.toNat<=122:=by
  unfold tagH at h
  cases l with
  | nil=>exact absurd h (by decide)
  | cons b t=>
    simp only[Bool.and_eq_true,List.headD_cons]at h
    refine⟨fun c hc=>?_,b,t,rfl,zpC h.2.1⟩
    have h3:=List.all_eq_true.1 h.2.2 c hc
    simp only[tagN,Bool.or_eq_true]at h3
    rcases h3 with h3 | h3
    . exact .inl (zpC h3)
    . exact .inr (.inl (by simpa using h3))
theorem zgr{l:List UInt8}(h:zdu l=true):(∀ b∈l,zjJ b)/\l≠[]:=by
  unfold zdu at h
  simp only[Bool.and_eq_true]at h
  refine⟨fun c hc=>?_,fun e=>by subst e;exact absurd h.1 (by decide)⟩
  have h3:=List.all_eq_true.1 h.2 c hc
  simp only[zcS,Bool.or_eq_true]at h3
  rcases h3 with h3 | h3
  . exact .inl (zpC h3)
  . exact .inr (.inr (by simpa using h3))
theorem zbZ{b:UInt8}(h:zjJ b):endT b=false/\endN b=false/\spsB b=false/\spcB b=false/\b≠62/\b≠47/\b≠60/\b≠13:=by
  have h9:¬ b=9:=by rintro rfl;rcases h with h | h | h<;>simp at h
  have h10:¬ b=10:=by rintro rfl;rcases h with h | h | h<;>simp at h
  have h12:¬ b=12:=by rintro rfl;rcases h with h | h | h<;>simp at h
  have h32:¬ b=32:=by rintro rfl;rcases h with h | h | h<;>simp at h
  have h47:¬ b=47:=by rintro rfl;rcases h with h | h | h<;>simp at h
  have h62:¬ b=62:=by rintro rfl;rcases h with h | h | h<;>simp at h
  have h61:¬ b=61:=by rintro rfl;rcases h with h | h | h<;>simp at h
  have h60:¬ b=60:=by rintro rfl;rcases h with h | h | h<;>simp at h
  have h13:¬ b=13:=by rintro rfl;rcases h with h | h | h<;>simp at h
  refine⟨?_,?_,?_,?_,h62,h47,h60,h13⟩
  . simp [endT,h9,h10,h12,h32,h47,h62]
  . simp [endN,h9,h10,h12,h32,h47,h62,h61]
  . simp [spsB,h9,h10,h12,h32,h47]
  . simp [spcB,h9,h10,h12,h32]
theorem zfz{l:Ch}(h:∀ b∈l.map (·.1),zjJ b):lowL l=l:=by
  unfold lowL
  induction l with
  | nil=>rfl
  | cons c l ih=>
    rw[List.map_cons,ih (fun b hb=>h b (by rw[List.map_cons];exact List.mem_cons_of_mem _ hb))]
    have hc:=h c.1 (by rw[List.map_cons];exact List.mem_cons_self ..)
    have:lowB c.1=c.1:=by
      unfold lowB
      split
      . rename_i hu
        exfalso
        simp only[zdX,Bool.and_eq_true,decide_eq_true_eq]at hu
        rcases hc with hc | hc | hc<;>omega
      . rfl
    rw[this]
theorem zl5{p:UInt8->Bool}{x:UInt8 × Int}{l:Ch}(h:p x.1=true):zo p (x::l)=zo p l:=by
  unfold zo
  rw[List.dropWhile_cons_of_pos (by simpa using h)]
theorem zhv(a:PA)(al:List PA)(r:Ch):zax (a::al)++ r=(32,0)::(a.1++ (61,0)::(34,0)::(escL true a.2++ (34,0)::(zax al++ r))):=by
  unfold zax
  rw[List.flatMap_cons]
  unfold zcu quoL
  simp only[List.append_assoc,List.cons_append,List.nil_append]
theorem zrV{v r:Ch}:qVal ((34,0)::(escL true v++ (34,0)::r))=(escL true v,r):=by
  have h:=zed (p:=(· == 34)) (a:=escL true v) (x:=(34,0)) (r:=r) (fun c hc=>by rw[beq_eq_false_iff_ne];exact(zfy hc).2.2.2 rfl) rfl
  unfold qVal
  rw[if_pos (by rw[z8];rfl),List.tail_cons,h.1,h.2]
  rfl
theorem znc{c:UInt8 × Int}{n v r:Ch}(hn:∀ b∈n.map (·.1),zjJ b):zah c (n++ (61,0)::(34,0)::(escL true v++ (34,0)::r))=((c::n,escL true v),r):=by
  have h:=zed (p:=endN) (a:=n) (x:=(61,0)) (r:=(34,0)::(escL true v++ (34,0)::r)) (fun d hd=>(zbZ (hn d.1 (List.mem_map.2 ⟨d,hd,rfl⟩))).2.1) rfl
  unfold zah
  rw[h.1,h.2,zbi (p:=spcB) (c:=(61,0)) rfl,if_pos (by rw[z8];rfl),List.tail_cons,zbi (p:=spcB) (c:=(34,0)) rfl,zrV]
theorem zfe(r:Ch):∀ al:List PA,(∀ a∈al,zdu (nmB a)=true)->zM (zo spsB (zax al++ (62,0)::r))=(al.map (fun a=>(a.1,escL true a.2)),(62,0)::r)
  | [],_=>by
    show zM (zo spsB ((62,0)::r))=_
    rw[zbi rfl,zaT rfl]
    rfl
  | a::al,h=>by
    have ih:=zfe r al (fun x hx=>h x (List.mem_cons_of_mem _ hx))
    have hg:=zgr (h a (List.mem_cons_self ..))
    obtain⟨an,av⟩:=a
    cases an with
    | nil=>exact absurd rfl hg.2
    | cons c n=>
      have hc:zjJ c.1:=hg.1 c.1 (by show c.1∈(c::n).map (·.1);rw[List.map_cons];exact List.mem_cons_self ..)
      have hn:∀ b∈n.map (·.1),zjJ b:=fun b hb=>hg.1 b (by show b∈(c::n).map (·.1);rw[List.map_cons];exact List.mem_cons_of_mem _ hb)
      rw[zhv,zl5 rfl]
      show zM (zo spsB (c::(n++ _)))=_
      rw[zbi (zbZ hc).2.2.1,zaM (zbZ hc).2.2.2.2.1,znc hn,ih]
      rfl
theorem znd{al:List PA}(h:∀ a∈al,zdu (nmB a)=true)(hi:∀ a∈al,InR a.2):(al.map (fun a=>(a.1,escL true a.2))).map zdt=al:=by
  rw[List.map_map]
  induction al with
  | nil=>rfl
  | cons a al ih=>
    rw[List.map_cons,ih (fun x hx=>h x (List.mem_cons_of_mem _ hx)) (fun x hx=>hi x (List.mem_cons_of_mem _ hx))]
    have hg:=zgr (h a (List.mem_cons_self ..))
    show(lowL a.1,decE (escL true a.2))::al=a::al
    rw[zfz hg.1,zro (hi a (List.mem_cons_self ..))]
def zff(out:List PTok)(t:PTok):List PTok:=if t.kind=3 then zaR out t.text else out++ [t]
def zdy(out ts:List PTok):List PTok:=ts.foldl zff out
theorem zeP(out a b:List PTok):zdy out (a++ b)=zdy (zdy out a) b:=List.foldl_append
theorem zgs(out:List PTok)(t:PTok)(ts:List PTok):zdy out (t::ts)=zdy (zff out t) ts:=rfl
def zgQ(l:Ch):PTok:=⟨3,[],[],false,l⟩
def zuT(tag:Ch)(al:List PA):Bool:=((zaa tag al)[(zaa tag al).length - 2]?).map (·.1) == some 47
def zbk(tag:Ch)(al:List PA):PTok:=⟨1,tag,zH al,zuT tag al,[]⟩
def endK(tag:Ch):PTok:=⟨2,tag,[],false,[]⟩
mutual
def PT.flow:PT->List PTok
  | ⟨tag,attrs,kids,text⟩=>if tag=[] then [zgQ text] else zbk tag attrs::(zbG kids++ if zbF (tag.map (·.1))=true then [] else [endK tag])
def zbG:List PT->List PTok
  | []=>[]
  | t::ts=>t.flow++ zbG ts
end
theorem PT.flow_eq(t:PT):t.flow=if t.tag=[] then [zgQ t.text] else zbk t.tag t.attrs::(zbG t.kids++ if zbF (t.tag.map (·.1))=true then [] else [endK t.tag]):=by cases t;rw[PT.flow]
theorem ztK{a:Ch}(r:Ch)(h:∀ c∈a,c.1≠60):ltT (a++ r)=a.length+ltT r:=by
  induction a with
  | nil=>rw[List.nil_append,List.length_nil,Nat.zero_add]
  | cons c a ih=>
    rw[List.cons_append,zeE (h c (List.mem_cons_self ..)),ih (fun x hx=>h x (List.mem_cons_of_mem _ hx)),List.length_cons]
    omega
theorem zjK(out:List PTok)(a b:Ch):zaR (zaR out a) b=zaR out (a++ b):=by
  by_cases ha:a=[]
  . subst ha;rw[zbw,List.nil_append]
  . by_cases hb:b=[]
    . subst hb;rw[zbw,List.append_nil]
    . exact zjw ha hb
theorem zpD{out:List PTok}{a:Ch}(r:Ch)(h:InR a):tokQ out (escL false a++ r)=tokQ (zaR out a) r:=by
  have hl:=ztK (a:=escL false a) r (fun c hc=>(zfy hc).1)
  rw[zdc,zdc (zaR out a),hl]
  have e1:(escL false a++ r).take ((escL false a).length+ltT r)=escL false a++ r.take (ltT r):=List.take_length_add_append _
  have e2:(escL false a++ r).drop ((escL false a).length+ltT r)=r.drop (ltT r):=List.drop_length_add_append _
  rw[e1,e2,zkM _ h,zjK]
theorem zdo{tag:Ch}(h:tag≠[])(al:List PA)(r:Ch):zaa tag al++ r=(60,0)::(tag++ (zax (zH al)++ (62,0)::r)):=by
  unfold zaa
  rw[if_neg h]
  simp only[List.append_assoc,List.cons_append,List.nil_append]
theorem zb0{tag:Ch}(h:tagH (tag.map (·.1))=true):∃ c t,tag=c::t/\zjJ c.1/\letB c.1=true:=by
  obtain⟨h1,b,t,e,h2,h3⟩:=zee h
  cases tag with
  | nil=>cases e
  | cons c l=>
    rw[List.map_cons]at e
    injection e with e1 e2
    rw[<-e1]at h2 h3
    refine⟨c,l,rfl,.inl ⟨h2,h3⟩,?_⟩
    unfold letB
    rw[decide_eq_true h2,decide_eq_true h3]
    rfl
theorem zne(al:List PA)(r:Ch):∃ x y,zax al++ (62,0)::r=x::y/\endT x.1=true:=by
  cases al with
  | nil=>exact⟨(62,0),r,rfl,rfl⟩
  | cons a al=>exact⟨(32,0),_,zhv a al _,rfl⟩
theorem zhw{tag:Ch}{al:List PA}(r:Ch)(ht:tagH (tag.map (·.1))=true)(ha:∀ a∈al,zdu (nmB a)=true)(hi:∀ a∈al,InR a.2):tagQ (zaa tag al++ r)=some (zbk tag al,r):=by
  obtain⟨c,t,rfl,hc,_⟩:=zb0 ht
  have hg:=(zee ht).1
  have hstart:=zdo (tag:=c::t) (by simp) al r
  have htail:(zaa (c::t) al++ r).tail=(c::t)++ (zax (zH al)++ (62,0)::r):=by rw[hstart];rfl
  have hov:zo (· == 47) (zaa (c::t) al++ r).tail=(c::t)++ (zax (zH al)++ (62,0)::r):=by
    rw[htail]
    exact zbi (by rw[beq_eq_false_iff_ne];exact(zbZ hc).2.2.2.2.2.1)
  obtain⟨x,y,hxy,hx⟩:=zne (zH al) r
  have hu:=zed (p:=endT) (a:=c::t) (x:=x) (r:=y) (fun d hd=>(zbZ (hg d.1 (List.mem_map.2 ⟨d,hd,rfl⟩))).1) hx
  rw[<-hxy]at hu
  have hq:=zfe r (zH al) (fun a h=>ha a (zcA h))
  have h47:isA [47] (zaa (c::t) al++ r).tail=false:=by
    rw[htail,List.cons_append,z8,beq_eq_false_iff_ne]
    exact(zbZ hc).2.2.2.2.2.1
  unfold tagQ
  rw[hov,hu.1,hu.2,hq,if_neg (by simp),h47]
  have hidx:(zaa (c::t) al++ r).length - ((62,0)::r:Ch).length - 1=(zaa (c::t) al).length - 2:=by
    rw[List.length_append,List.length_cons]
    have:2<=(zaa (c::t) al).length:=by
      have h:=congrArg List.length (zdo (tag:=c::t) (by simp) al [])
      rw[List.append_nil]at h
      rw[h]
      simp only[List.length_cons,List.length_append]
      omega
    omega
  have hlt:(zaa (c::t) al).length - 2 < (zaa (c::t) al).length:=by
    have h:=congrArg List.length (zdo (tag:=c::t) (by simp) al [])
    rw[List.append_nil]at h
    rw[h]
    simp only[List.length_cons,List.length_append]
    omega
  rw[hidx,List.getElem?_append_left hlt,znd (fun a h=>ha a (zcA h)) (fun a h=>hi a (zcA h)),zfW,zfz hg]
  rfl
theorem zpE{tag:Ch}(h:tag≠[])(hv:zbF (tag.map (·.1))=false)(r:Ch):endH tag++ r=(60,0)::(47,0)::(tag++ (62,0)::r):=by
  unfold endH
  rw[if_neg (by rw[hv];simp [h])]
  simp only[List.append_assoc,List.cons_append,List.nil_append]
theorem zrW{tag:Ch}(r:Ch)(ht:tagH (tag.map (·.1))=true):tagQ ((60,0)::(47,0)::(tag++ (62,0)::r))=some (endK tag,r):=by
  obtain⟨c,t,rfl,hc,_⟩:=zb0 ht
  have hg:=(zee ht).1
  have hov:zo (· == 47) ((60,0)::(47,0)::((c::t)++ (62,0)::r):Ch).tail=(c::t)++ (62,0)::r:=by
    rw[List.tail_cons,zl5 rfl]
    exact zbi (by rw[beq_eq_false_iff_ne];exact(zbZ hc).2.2.2.2.2.1)
  have hu:=zed (p:=endT) (a:=c::t) (x:=(62,0)) (r:=r) (fun d hd=>(zbZ (hg d.1 (List.mem_map.2 ⟨d,hd,rfl⟩))).1) rfl
  unfold tagQ
  rw[hov,hu.1,hu.2,zbi (p:=spsB) (c:=(62,0)) rfl,zaT rfl,if_neg (by simp),if_pos (by rw[List.tail_cons,z8];rfl),zfz hg]
  rfl
theorem zgt{tag:Ch}{al:List PA}(r:Ch)(ht:tagH (tag.map (·.1))=true):zaj (zaa tag al++ r)=true:=by
  obtain⟨c,t,rfl,hc,hl⟩:=zb0 ht
  rw[zdo (by simp)]
  unfold zaj
  rw[z8,List.tail_cons,List.cons_append,z8,if_neg (by rw[beq_iff_eq];exact(zbZ hc).2.2.2.2.2.1)]
  show(_ && letB c.1)=true
  rw[hl]
  rfl
theorem zpF{tag:Ch}(r:Ch)(ht:tagH (tag.map (·.1))=true):zaj ((60,0)::(47,0)::(tag++ (62,0)::r))=true:=by
  obtain⟨c,t,rfl,hc,hl⟩:=zb0 ht
  simp only[zaj,z8,List.tail_cons,beq_self_eq_true,if_true,List.cons_append,Bool.true_and]
  exact hl
theorem zim{out:List PTok}{m r:Ch}{t:PTok}(h60:∃ x,m=(60,0)::x)(ha:zaj m=true)(hq:tagQ m=some (t,r))(hr:r.length<=m.length)(hd:m.drop (m.length - r.length)=r) :
    tokQ out m=if t.kind=1/\(t.name.map (·.1)=[115,99,114,105,112,116]\/t.name.map (·.1)=[115,116,121,108,101]) then tokQ (zaR (out++ [t]) (r.take (rawT (t.name.map (·.1)) r))) (r.drop (rawT (t.name.map (·.1)) r)) else tokQ (out++ [t]) r:=by
  obtain⟨x,rfl⟩:=h60
  rw[zgk rfl]
  have hb:=ha
  rw[zeF rfl]at hb
  unfold zfn
  rw[if_pos hb,zkA ha,hq]
  simp only[Option.map_some,hd]
  by_cases hc:t.kind=1/\(t.name.map (·.1)=[115,99,114,105,112,116]\/t.name.map (·.1)=[115,116,121,108,101])
  . rw[if_pos hc,if_pos hc]
  . rw[if_neg hc,if_neg hc]
theorem zdK{a r:Ch}:(a++ r).drop ((a++ r).length - r.length)=r:=by rw[List.length_append,Nat.add_sub_cancel,List.drop_left]
theorem zl6(l:List UInt8):rawH l=true↔l=[115,99,114,105,112,116]\/l=[115,116,121,108,101]:=by
  unfold rawH
  rw[Bool.or_eq_true,beq_iff_eq,beq_iff_eq]
theorem zhx{out:List PTok}{tag:Ch}{al:List PA}(r:Ch)(ht:tagH (tag.map (·.1))=true)(ha:∀ a∈al,zdu (nmB a)=true)(hi:∀ a∈al,InR a.2)(hr:rawH (tag.map (·.1))=false):tokQ out (zaa tag al++ r)=tokQ (out++ [zbk tag al]) r:=by
  have hne:tag≠[]:=by obtain⟨c,t,rfl,_⟩:=zb0 ht;simp
  rw[zim (t:=zbk tag al) (r:=r) ⟨_,zdo hne al r⟩ (zgt r ht) (zhw r ht ha hi) (by rw[List.length_append];omega) zdK,if_neg]
  rintro⟨_,h⟩
  have:=(zl6 _).2 h
  rw[show(zbk tag al).name=tag from rfl,hr]at this
  cases this
theorem zl7{out:List PTok}{tag:Ch}(r:Ch)(ht:tagH (tag.map (·.1))=true)(hv:zbF (tag.map (·.1))=false):tokQ out (endH tag++ r)=tokQ (out++ [endK tag]) r:=by
  have hne:tag≠[]:=by obtain⟨c,t,rfl,_⟩:=zb0 ht;simp
  rw[zpE hne hv]
  have e:(60,0)::(47,0)::(tag++ (62,0)::r)=([(60,0),(47,0)]++ tag++ [(62,0)])++ r:=by simp
  rw[zim (t:=endK tag) (r:=r) ⟨_,rfl⟩ (zpF r ht) (zrW r ht) (by rw[e,List.length_append];omega) (by rw[e];exact zdK),if_neg]
  rintro⟨h,_⟩
  have h2:(2:Nat)=1:=h
  omega
theorem zrX{name:List UInt8}{a r:Ch}(h:∀ c∈a,c.1≠60)(hr:zcW r name=true)(hn:r≠[]):rawT name (a++ r)=a.length:=by
  induction a with
  | nil=>
    cases r with
    | nil=>exact absurd rfl hn
    | cons c r=>rw[List.nil_append,rawT,if_pos hr];rfl
  | cons c a ih=>
    have hc:c.1≠60:=h c (List.mem_cons_self ..)
    have he:zcW (c::(a++ r)) name=false:=by
      unfold zcW
      split
      . rfl
      . rw[Bool.and_eq_false_iff]
        refine .inr ?_
        rw[beq_eq_false_iff_ne]
        intro e
        rw[List.take_succ_cons,lowL,List.map_cons,List.map_cons,List.cons_append]at e
        injection e with e _
        apply hc
        have h1:lowB c.1=60:=e
        unfold lowB at h1
        split at h1
        . rename_i hu
          exfalso
          simp only[zdX,Bool.and_eq_true,decide_eq_true_eq]at hu
          have h2:=congrArg UInt8.toNat h1
          rw[UInt8.toNat_add]at h2
          have h3:(32:UInt8).toNat=32:=rfl
          have h4:(60:UInt8).toNat=60:=rfl
          omega
        . exact h1
    rw[List.cons_append,rawT,he,if_neg (by simp),ih (fun x hx=>h x (List.mem_cons_of_mem _ hx)),List.length_cons]
theorem zrY{tag:Ch}(r:Ch)(ht:tagH (tag.map (·.1))=true):zcW ((60,0)::(47,0)::(tag++ (62,0)::r)) (tag.map (·.1))=true:=by
  have hg:=(zee ht).1
  unfold zcW
  have e:((60,0)::(47,0)::(tag++ (62,0)::r):Ch)=([(60,0),(47,0)]++ tag)++ (62,0)::r:=by simp
  have hl:(([(60,0),(47,0)]++ tag:Ch)).length=(tag.map (·.1)).length+2:=by rw[List.length_append,List.length_map];show 2+_=_;omega
  rw[e,List.getElem?_append_right (by rw[hl];exact Nat.le_refl _),hl,Nat.sub_self,<-hl,List.take_left]
  show(_ && _)=true
  have e2:lowL ([(60,0),(47,0)]++ tag)=[(60,0),(47,0)]++ tag:=by rw[zkx,zfz hg];rfl
  rw[e2,List.map_append]
  simp
theorem zrZ{out:List PTok}{tag R:Ch}{al:List PA}(r:Ch)(ht:tagH (tag.map (·.1))=true)(ha:∀ a∈al,zdu (nmB a)=true)(hi:∀ a∈al,InR a.2)(hr:rawH (tag.map (·.1))=true)(hv:zbF (tag.map (·.1))=false)(hR:∀ c∈R,c.1≠60) :
    tokQ out (zaa tag al++ (R++ (endH tag++ r)))=tokQ (zaR (out++ [zbk tag al]) R++ [endK tag]) r:=by
  have hne:tag≠[]:=by obtain⟨c,t,rfl,_⟩:=zb0 ht;simp
  rw[zim (t:=zbk tag al) (r:=R++ (endH tag++ r)) ⟨_,zdo hne al _⟩ (zgt _ ht) (zhw _ ht ha hi) (by simp only[List.length_append];omega) zdK]
  rw[show(zbk tag al).name=tag from rfl,if_pos ⟨rfl,(zl6 _).1 hr⟩]
  rw[zrX hR (by rw[zpE hne hv];exact zrY r ht) (by rw[zpE hne hv];simp),List.take_left,List.drop_left]
  exact zl7 r ht hv
mutual
def PT.okI:PT->Prop
  | ⟨_,attrs,kids,text⟩=>InR text/\(∀ a∈attrs,InR a.2)/\okIL kids
def okIL:List PT->Prop
  | []=>True
  | t::ts=>t.okI/\okIL ts
end
theorem PT.okI_eq(t:PT):t.okI↔InR t.text/\(∀ a∈t.attrs,InR a.2)/\okIL t.kids:=by cases t;rw[PT.okI]
theorem zgu{t:PT}{ts:List PT}(h:fitL (t::ts)=true):t.fitH=true/\fitL ts=true:=by rw[fitL,Bool.and_eq_true]at h;exact h
theorem zpG{t:PT}{ts:List PT}(h:okIL (t::ts)):t.okI/\okIL ts:=by rw[okIL]at h;exact h
theorem zpH{t:PT}(h:t.fitH=true)(ht:t.tag≠[]):tagH (t.tag.map (·.1))=true/\(∀ a∈t.attrs,zdu (nmB a)=true)/\((zbF (t.tag.map (·.1))=true/\t.kids=[])\/(zbF (t.tag.map (·.1))=false/\rawH (t.tag.map (·.1))=true/\∀ x∈t.kids,rawK x=true)\/(zbF (t.tag.map (·.1))=false/\rawH (t.tag.map (·.1))=false/\fitL t.kids=true)):=by
  rw[PT.fitH_eq,if_neg ht,Bool.and_eq_true,Bool.and_eq_true]at h
  refine⟨h.1,fun a ha=>?_,?_⟩
  . have:=List.all_eq_true.1 h.2.1 a ha
    unfold zdH at this
    exact(Bool.and_eq_true _ _ ▸ this).1
  . have h3:=h.2.2
    cases hv:zbF (t.tag.map (·.1)) with
    | true=>
      rw[hv,if_pos rfl]at h3
      exact .inl ⟨rfl,by simpa using h3⟩
    | false=>
      rw[hv,if_neg (by simp)]at h3
      cases hr:rawH (t.tag.map (·.1)) with
      | true=>
        rw[hr,if_pos rfl]at h3
        exact .inr (.inl ⟨rfl,rfl,fun x hx=>List.all_eq_true.1 h3 x hx⟩)
      | false=>
        rw[hr,if_neg (by simp)]at h3
        exact .inr (.inr ⟨rfl,rfl,h3⟩)
theorem zr0{l:List UInt8}(h:zbF l=true):rawH l=false:=by
  unfold zbF at h
  rw[Bool.or_eq_true,Bool.or_eq_true,beq_iff_eq,beq_iff_eq,beq_iff_eq]at h
  rcases h with rfl | rfl | rfl<;>decide
def rawX(l:List PT):Ch:=l.flatMap PT.text
theorem zkN:∀ l:List PT,(∀ x∈l,rawK x=true)->(putL l true).flatten=rawX l/\(∀ c∈rawX l,c.1≠60/\c.1≠13)/\∀ out,zdy out (zbG l)=zaR out (rawX l)
  | [],_=>⟨by rw[putL];rfl,(fun c hc=>absurd hc (by simp [rawX])),(fun out=>by rw[zbG];exact(zbw out).symm)⟩
  | t::l,h=>by
    have ih:=zkN l (fun x hx=>h x (List.mem_cons_of_mem _ hx))
    have ht:=h t (List.mem_cons_self ..)
    unfold rawK at ht
    rw[Bool.and_eq_true,decide_eq_true_eq]at ht
    have hx:rawX (t::l)=t.text++ rawX l:=by unfold rawX;rw[List.flatMap_cons]
    refine⟨?_,fun c hc=>?_,fun out=>?_⟩
    . rw[putL,PT.putH_eq,if_pos ht.1,List.flatten_append,ih.1,hx]
      show(asH true t.text++ [])++ _=_
      rw[List.append_nil]
      rfl
    . rw[hx]at hc
      rcases List.mem_append.1 hc with hc | hc
      . have h2:=ht.2
        unfold rawB at h2
        rw[Bool.and_eq_true,Bool.not_eq_true',List.any_eq_false]at h2
        have h3:=h2.1 c.1 (List.mem_map.2 ⟨c,hc,rfl⟩)
        constructor
        . intro e;rw[e]at h3;exact h3 (by decide)
        . intro e;rw[e]at h3;exact h3 (by decide)
      . exact ih.2.1 c hc
    . rw[zbG,PT.flow_eq,if_pos ht.1,zeP,ih.2.2,hx]
      show zaR (zff out (zgQ t.text)) _=_
      rw[show zff out (zgQ t.text)=zaR out t.text from if_pos rfl,zjK]
theorem zpI:∀ L:List PT,fitL L=true->okIL L->∀ (out:List PTok) (r:Ch),tokQ out ((putL L false).flatten++ r)=tokQ (zdy out (zbG L)) r:=by
  apply PT.ind
  intro L IH
  have key:∀ l:List PT,(∀ t∈l,t∈L)->fitL l=true->okIL l->∀ (out:List PTok) (r:Ch),tokQ out ((putL l false).flatten++ r)=tokQ (zdy out (zbG l)) r:=by
    intro l
    induction l with
    | nil=>intro _ _ _ out r;rw[putL,zbG];rfl
    | cons t l ih=>
      intro hm hf hi out r
      obtain⟨hft,hfl⟩:=zgu hf
      obtain⟨hit,hil⟩:=zpG hi
      obtain⟨i1,i2,i3⟩:=(PT.okI_eq t).1 hit
      have ih2:=ih (fun x hx=>hm x (List.mem_cons_of_mem _ hx)) hfl hil
      rw[putL,List.flatten_append,List.append_assoc,zbG,zeP,<-ih2]
      generalize (putL l false).flatten++ r=r2
      rw[PT.putH_eq,PT.flow_eq]
      by_cases ht:t.tag=[]
      . rw[if_pos ht,if_pos ht]
        show tokQ out ((escL false t.text++ [])++ r2)=tokQ (zff out (zgQ t.text)) r2
        rw[List.append_nil,zpD _ i1]
        rfl
      . rw[if_neg ht,if_neg ht]
        obtain⟨h1,h2,h3⟩:=zpH hft ht
        have ea:∀ ks:List Ch,(zaa t.tag t.attrs::(ks++ [endH t.tag])).flatten++ r2=zaa t.tag t.attrs++ (ks.flatten++ (endH t.tag++ r2)):=fun ks=>by
          rw[List.flatten_cons,List.flatten_append]
          show(_++ (_++ (endH t.tag++ [])))++ r2=_
          rw[List.append_nil,List.append_assoc,List.append_assoc]
        rw[ea,zgs,show zff out (zbk t.tag t.attrs)=out++ [zbk t.tag t.attrs]from if_neg (by show ¬ (1:Nat)=3;omega),zeP]
        rcases h3 with ⟨hv,hk⟩ | ⟨hv,hr,hk⟩ | ⟨hv,hr,hk⟩
        . rw[hk,putL,zbG,if_pos hv]
          have he:endH t.tag=[]:=by unfold endH;rw[if_pos (Or.inr hv)]
          rw[he]
          show tokQ out (zaa t.tag t.attrs++ r2)=tokQ (out++ [zbk t.tag t.attrs]) r2
          exact zhx r2 h1 h2 i2 (zr0 hv)
        . obtain⟨p1,p2,p3⟩:=zkN t.kids hk
          rw[hr,p1,if_neg (by rw[hv];simp),p3]
          rw[zrZ r2 h1 h2 i2 hr hv (fun c hc=>(p2 c hc).1)]
          rfl
        . rw[hr,if_neg (by rw[hv];simp),zhx _ h1 h2 i2 hr,IH t (hm t (List.mem_cons_self ..)) hk i3,zl7 _ h1 hv]
          rfl
  exact fun hf hi=>key L (fun _ h=>h) hf hi
theorem znf(al:List PA)(h:∀ a∈al,zdu (nmB a)=true):∀ c∈zax al,c.1≠13:=by
  intro c hc
  obtain⟨a,ha,hc⟩:=List.mem_flatMap.1 hc
  unfold zcu quoL at hc
  simp only[List.mem_append,List.mem_cons,List.not_mem_nil,or_false]at hc
  rcases hc with (rfl | hc) | rfl | (rfl | hc) | rfl
  . decide
  . exact(zbZ ((zgr (h a ha)).1 c.1 (List.mem_map.2 ⟨c,hc,rfl⟩))).2.2.2.2.2.2.2
  . decide
  . decide
  . exact(zfy hc).2.2.1
  . decide
theorem zpJ:∀ L:List PT,fitL L=true->∀ c∈(putL L false).flatten,c.1≠13:=by
  apply PT.ind
  intro L IH
  have key:∀ l:List PT,(∀ t∈l,t∈L)->fitL l=true->∀ c∈(putL l false).flatten,c.1≠13:=by
    intro l
    induction l with
    | nil=>intro _ _ c hc;rw[putL]at hc;cases hc
    | cons t l ih=>
      intro hm hf c hc
      obtain⟨hft,hfl⟩:=zgu hf
      rw[putL,List.flatten_append]at hc
      rcases List.mem_append.1 hc with hc | hc
      . rw[PT.putH_eq]at hc
        by_cases ht:t.tag=[]
        . rw[if_pos ht]at hc
          have hc:c∈escL false t.text:=by simpa [asH]using hc
          exact(zfy hc).2.2.1
        . rw[if_neg ht,List.flatten_cons,List.flatten_append]at hc
          obtain⟨h1,h2,h3⟩:=zpH hft ht
          have hg:=(zee h1).1
          have htag:∀ d∈t.tag,d.1≠13:=fun d hd=>(zbZ (hg d.1 (List.mem_map.2 ⟨d,hd,rfl⟩))).2.2.2.2.2.2.2
          rcases List.mem_append.1 hc with hc | hc
          . unfold zaa at hc
            rw[if_neg ht]at hc
            simp only[List.mem_append,List.mem_cons,List.not_mem_nil,or_false]at hc
            rcases hc with ((rfl | hc) | hc) | rfl
            . decide
            . exact htag c hc
            . exact znf _ (fun a ha=>h2 a (zcA ha)) c hc
            . decide
          . rcases List.mem_append.1 hc with hc | hc
            . rcases h3 with ⟨_,hk⟩ | ⟨hv,hr,hk⟩ | ⟨hv,hr,hk⟩
              . rw[hk,putL]at hc;cases hc
              . obtain⟨p1,p2,_⟩:=zkN t.kids hk
                rw[hr,p1]at hc
                exact(p2 c hc).2
              . rw[hr]at hc
                exact IH t (hm t (List.mem_cons_self ..)) hk c hc
            . have hc:c∈endH t.tag:=by simpa using hc
              unfold endH at hc
              split at hc
              . cases hc
              . simp only[List.mem_append,List.mem_cons,List.not_mem_nil,or_false]at hc
                rcases hc with ((rfl | rfl) | hc) | rfl
                . decide
                . decide
                . exact htag c hc
                . decide
      . exact ih (fun x hx=>hm x (List.mem_cons_of_mem _ hx)) hfl c hc
  exact fun hf=>key L (fun _ h=>h) hf
def eqvB(s s':BS):Prop:=s.top=s'.top/\s.anc=s'.anc/\zj s.loose=zj s'.loose
theorem eqvB.refl(s:BS):eqvB s s:=⟨rfl,rfl,rfl⟩
theorem eqvB.trans{a b c:BS}(h:eqvB a b)(k:eqvB b c):eqvB a c:=⟨h.1.trans k.1,h.2.1.trans k.2.1,h.2.2.trans k.2.2⟩
theorem zkO{x:Nm}{top:PT}{l l':List PT}(h:zj l=zj l'):∀ anc:List PT,eqvB (zbg x top l anc) (zbg x top l' anc)
  | []=>⟨rfl,rfl,h⟩
  | a::anc=>by
    have e:zI top l=zI top l':=by unfold zI;rw[h]
    by_cases hx:nmT top=x
    . rw[zbU hx,zbU hx]
      unfold endB
      rw[e]
      exact .refl _
    . rw[zcr hx,zcr hx,e]
      exact .refl _
theorem eqvB.step{s s':BS}(h:eqvB s s')(t:KP):eqvB (zan s t) (zan s' t):=by
  obtain⟨top,l,anc⟩:=s
  obtain⟨top',l',anc'⟩:=s'
  obtain⟨h1,h2,h3⟩:=h
  simp only at h1 h2 h3
  subst h1 h2
  have hn:(BS.mk top l anc).names=(BS.mk top l' anc).names:=rfl
  have hs:zI top l=zI top l':=by unfold zI;rw[h3]
  unfold zan
  split
  . split
    . exact⟨rfl,rfl,h3⟩
    . split
      . exact⟨rfl,rfl,by rw[zaI,zaI,h3]⟩
      . refine⟨rfl,?_,rfl⟩
        show zI top l::anc=zI top l' :: anc
        rw[hs]
  . split
    . rw[hn]
      split
      . exact zkO h3 anc
      . exact⟨rfl,rfl,h3⟩
    . split
      . exact⟨rfl,rfl,by rw[zaI,zaI,h3]⟩
      . exact⟨rfl,rfl,h3⟩
theorem eqvB.run{s s':BS}(h:eqvB s s')(L:List KP):eqvB (runB s L) (runB s' L):=by
  induction L generalizing s s' with
  | nil=>exact h
  | cons t L ih=>exact ih (h.step t)
theorem eqvB.fin{s s':BS}(h:eqvB s s'):zaQ s.top s.loose s.anc=zaQ s'.top s'.loose s'.anc:=by
  obtain⟨top,l,anc⟩:=s
  obtain⟨top',l',anc'⟩:=s'
  obtain⟨h1,h2,h3⟩:=h
  simp only at h1 h2 h3
  subst h1 h2
  cases anc with
  | nil=>show top.kids++ zj l=top.kids++ zj l';rw[h3]
  | cons a anc=>
    show zaQ (zaW a (zI top l)) [] anc=zaQ (zaW a (zI top l')) [] anc
    unfold zI
    rw[h3]
theorem zpK(a b:Ch):zj [txT a,txT b]=zj [txT (a++ b)]:=by
  have e1:zj [txT a,txT b]=addT (zj [txT a]) (txT b) (zj []):=zX [txT a] (txT b)
  have e0:∀ c:Ch,zj [txT c]=addT [] (txT c) (zj []):=fun c=>zX [] (txT c)
  rw[e1,e0,e0]
  by_cases ha:a=[]
  . subst ha
    rw[zcg (t:=txT []) rfl rfl,List.nil_append]
  . rw[za0 (t:=txT a) rfl ha]
    by_cases hb:b=[]
    . subst hb
      rw[zcg (t:=txT []) rfl rfl,List.append_nil,za0 (t:=txT a) rfl ha]
    . rw[za0 (t:=txT (a++ b)) rfl (by show a++ b≠[];simp [ha])]
      exact zbr (t:=txT b) rfl hb [] (txT a) rfl _
theorem zfA(s:BS)(a b:List KP):runB s (a++ b)=runB (runB s a) b:=List.foldl_append
theorem zeQ(s:BS)(l:Ch):zan s (toKP (zgQ l))=⟨s.top,s.loose++ [txT l],s.anc⟩:=by
  unfold zan
  rw[if_neg (by show ¬ (3:Int)=1;omega),if_neg (by show ¬ (3:Int)=2;omega),if_pos (by show(3:Int)=3;rfl)]
  rfl
theorem zpL(s:BS)(out:List PTok)(l:Ch):eqvB (runB s ((zaR out l).map toKP)) (zan (runB s (out.map toKP)) (toKP (zgQ l))):=by
  unfold zaR
  by_cases hl:l=[]
  . rw[if_pos hl,hl,zeQ]
    refine⟨rfl,rfl,?_⟩
    show zj _=zj (_++ [txT []])
    rw[zX,zcg (t:=txT []) rfl rfl]
  . rw[if_neg hl]
    rcases List.eq_nil_or_concat out with e | ⟨o,x,e⟩
    . subst e
      exact .refl _
    . rw[List.concat_eq_append]at e
      subst e
      rw[List.getLast?_concat,List.dropLast_concat]
      simp only
      split
      . rename_i hx
        have e3:∀ (s:BS) (t:PTok),t.kind=3->zan s (toKP t)=⟨s.top,s.loose++ [txT t.text],s.anc⟩:=fun s t ht=>by
          unfold zan
          rw[if_neg (by show ¬ (t.kind:Int)=1;omega),if_neg (by show ¬ (t.kind:Int)=2;omega),if_pos (by show(t.kind:Int)=3;omega)]
          rfl
        rw[List.map_append,List.map_append,zfA,zfA]
        show eqvB (zan (runB s (o.map toKP)) (toKP ⟨3,[],[],false,x.text++ l⟩)) (zan (zan (runB s (o.map toKP)) (toKP x)) (toKP (zgQ l)))
        rw[e3 _ _ rfl,e3 _ x hx,zeQ]
        refine⟨rfl,rfl,?_⟩
        show zj (_++ [txT (x.text++ l)])=zj ((_++ [txT x.text])++ [txT l])
        rw[List.append_assoc,zaI,zaI (runB s (o.map toKP)).loose ([txT x.text]++ [txT l])]
        show _=zeq _ (zj [txT x.text,txT l])
        rw[zpK]
      . rw[List.map_append (l₁:=o++ [x]),zfA]
        exact .refl _
theorem zkP(s:BS)(ts:List PTok):∀ out:List PTok,eqvB (runB s ((zdy out ts).map toKP)) (runB (runB s (out.map toKP)) (ts.map toKP)):=by
  induction ts with
  | nil=>intro out;exact .refl _
  | cons t ts ih=>
    intro out
    rw[zgs]
    refine(ih (zff out t)).trans ?_
    rw[List.map_cons]
    show eqvB _ (runB (zan (runB s (out.map toKP)) (toKP t)) (ts.map toKP))
    refine eqvB.run ?_ _
    unfold zff
    split
    . rename_i ht
      have e:zan (runB s (out.map toKP)) (toKP t)=zan (runB s (out.map toKP)) (toKP (zgQ t.text)):=by
        rw[zeQ]
        unfold zan
        rw[if_neg (by show ¬ (t.kind:Int)=1;omega),if_neg (by show ¬ (t.kind:Int)=2;omega),if_pos (by show(t.kind:Int)=3;omega)]
        rfl
      rw[e]
      exact zpL s out t.text
    . rw[List.map_append,zfA]
      exact .refl _
theorem zjL(ts:List PTok):zb8 ((zdy [] ts).map toKP)=zb8 (ts.map toKP):=(zkP zaU ts []).fin
mutual
def PT.can:PT->PT
  | ⟨tag,attrs,kids,text⟩=>if tag=[] then txT text else ⟨tag,zH attrs,canL kids,[]⟩
def canL:List PT->List PT
  | []=>[]
  | t::ts=>t.can::canL ts
end
theorem PT.can_eq(t:PT):t.can=if t.tag=[] then txT t.text else ⟨t.tag,zH t.attrs,canL t.kids,[]⟩:=by cases t;rw[PT.can]
theorem zr1(a b:List PT):canL (a++ b)=canL a++ canL b:=by
  induction a with
  | nil=>rw[canL];rfl
  | cons t a ih=>rw[List.cons_append,canL,canL,ih];rfl
theorem zpM:∀ L:List PT,zj (canL L)=zj L:=by
  apply PT.ind
  intro L IH
  have key:∀ n,∀ l:List PT,l.length=n->(∀ t∈l,t∈L)->zj (canL l)=zj l:=by
    intro n
    induction n with
    | zero=>
      intro l hl _
      have e:l=[]:=List.eq_nil_of_length_eq_zero hl
      subst e
      rw[canL]
    | succ n ih=>
      intro l hl hm
      rcases List.eq_nil_or_concat l with e | ⟨o,t,e⟩
      . subst e;cases hl
      . rw[List.concat_eq_append]at e
        subst e
        have hol:o.length=n:=by rw[List.length_append]at hl;simpa using hl
        have h1:=ih o hol (fun x hx=>hm x (List.mem_append_left _ hx))
        have e1:canL [t]=[t.can]:=by rw[canL,canL]
        rw[zr1,e1,zX,zX,h1,PT.can_eq]
        by_cases ht:t.tag=[]
        . rw[if_pos ht]
          unfold addT
          rw[if_neg (show ¬ ((txT t.text).tag≠[])from fun h=>h rfl),if_neg (show ¬ (t.tag≠[])from fun h=>h ht)]
          rfl
        . rw[if_neg ht,zbJ (t:=⟨t.tag,zH t.attrs,canL t.kids,[]⟩) ht,zbJ ht]
          show _++ [PT.mk t.tag (zH (zH t.attrs)) (zj (canL t.kids)) []]=_
          rw[zfW,IH t (hm t (by simp))]
  exact key L.length L rfl (fun _ h=>h)
theorem zgv{T:List KP}{i:Nat}{x:KP}{r:List KP}(h:T.drop i=x::r):T[i]?=some x/\T.drop (i+1)=r:=by
  refine⟨?_,?_⟩
  . have:=congrArg (fun l=>l[0]?) h
    simpa using this
  . rw[<-List.drop_drop,h];rfl
theorem zpN{T:List KP}{i:Nat}{a r:List KP}(h:T.drop i=a++ r):T.drop (i+a.length)=r:=by rw[<-List.drop_drop,h,List.drop_left]
theorem zpO(T:List KP):∀ L:List PT,fitL L=true->∀ (i:Nat) (op:List Nm) (acc out:List PT) (j:Nat) (rest:List KP),T.drop i=(zbG L).map toKP++ rest->KidsR T (i+(zbG L).length) op (acc++ canL L) out j->KidsR T i op acc out j:=by
  apply PT.ind
  intro L IH
  have key:∀ l:List PT,(∀ t∈l,t∈L)->fitL l=true->∀ (i:Nat) (op:List Nm) (acc out:List PT) (j:Nat) (rest:List KP),T.drop i=(zbG l).map toKP++ rest->KidsR T (i+(zbG l).length) op (acc++ canL l) out j->KidsR T i op acc out j:=by
    intro l
    induction l with
    | nil=>
      intro _ _ i op acc out j rest _ hr
      rw[zbG,canL,List.append_nil]at hr
      exact hr
    | cons t l ih=>
      intro hm hf i op acc out j rest hd hr
      obtain⟨hft,hfl⟩:=zgu hf
      have ih2:=ih (fun x hx=>hm x (List.mem_cons_of_mem _ hx)) hfl
      rw[zbG,List.map_append,List.append_assoc]at hd
      have hd2:=zpN hd
      rw[List.length_map]at hd2
      have hr2:KidsR T (i+t.flow.length) op (acc++ [t.can]) out j:=by
        refine ih2 (i+t.flow.length) op (acc++ [t.can]) out j rest hd2 ?_
        rw[zbG,canL,List.length_append]at hr
        rw[List.append_assoc,Nat.add_assoc]
        exact hr
      rw[PT.flow_eq]at hd hr2
      rw[PT.can_eq]at hr2
      by_cases ht:t.tag=[]
      . rw[if_pos ht]at hd hr2
        rw[if_pos ht]at hr2
        obtain⟨h0,_⟩:=zgv (x:=toKP (zgQ t.text)) hd
        exact .data h0 rfl hr2
      . rw[if_neg ht]at hd hr2
        rw[if_neg ht]at hr2
        obtain⟨h1,h2,h3⟩:=zpH hft ht
        rw[List.map_cons,List.cons_append]at hd
        obtain⟨h0,hd1⟩:=zgv hd
        rcases h3 with ⟨hv,hk⟩ | h3
        . rw[if_pos hv,hk]at hr2
          rw[zbG,canL]at hr2
          exact .void h0 rfl ht hv hr2
        . have hv:zbF (t.tag.map (·.1))=false:=by rcases h3 with h | h<;>exact h.1
          have hkf:fitL t.kids=true\/∀ x∈t.kids,rawK x=true:=by
            rcases h3 with h | h
            . exact .inr h.2.2
            . exact .inl h.2.2
          have hkfit:fitL t.kids=true:=by
            rcases hkf with h | h
            . exact h
            . rw[zl0]
              refine List.all_eq_true.2 fun x hx=>?_
              have h4:=h x hx
              unfold rawK rawB at h4
              rw[Bool.and_eq_true,Bool.and_eq_true,decide_eq_true_eq]at h4
              rw[PT.fitH_eq,if_pos h4.1]
              exact h4.2.2
          rw[if_neg (by rw[hv];simp),List.map_append,List.append_assoc]at hd1
          rw[if_neg (by rw[hv];simp)]at hr2
          have hd3:=zpN hd1
          rw[List.length_map]at hd3
          rw[List.map_cons,List.map_nil,List.cons_append]at hd3
          obtain⟨h5,_⟩:=zgv hd3
          have hlast:0<=zd0 (op++ [(toKP (zbk t.tag t.attrs)).nm]) (toKP (endK t.tag)).nm:=by
            rw[zer,if_pos (show(toKP (zbk t.tag t.attrs)).nm=(toKP (endK t.tag)).nm from rfl)]
            exact Int.natCast_nonneg _
          have hks:KidsR T (i+1) (op++ [(toKP (zbk t.tag t.attrs)).nm]) [] (canL t.kids) (i+1+(zbG t.kids).length):=by
            refine IH t (hm t (List.mem_cons_self ..)) hkfit (i+1) _ [] _ _ _ hd1 ?_
            rw[List.nil_append]
            exact .ended h5 rfl hlast
          have hend:zd1 T (i+1+(zbG t.kids).length) op (toKP (zbk t.tag t.attrs)).nm=true:=by
            unfold zd1
            rw[h5]
            show(_ || (toKP (endK t.tag)).nm == (toKP (zbk t.tag t.attrs)).nm)=true
            rw[show(toKP (endK t.tag)).nm=(toKP (zbk t.tag t.attrs)).nm from rfl,beq_self_eq_true,Bool.or_true]
          refine .elem h0 rfl ht hv hks ?_
          rw[if_pos hend]
          have e:i+(zbk t.tag t.attrs::(zbG t.kids++ [endK t.tag])).length=i+1+(zbG t.kids).length+1:=by
            rw[List.length_cons,List.length_append]
            show i+((zbG t.kids).length+1+1)=_
            omega
          rw[e]at hr2
          exact hr2
  exact fun hf=>key L (fun _ h=>h) hf
theorem zng{L:List PT}(hf:fitL L=true):zb8 ((zbG L).map toKP)=zj L:=by
  rw[<-zpM L]
  refine zmv (j:=(zbG L).length) ?_
  refine zpO _ L hf 0 [] [] _ _ [] (by rw[List.drop_zero,List.append_nil]) ?_
  rw[List.nil_append,Nat.zero_add]
  exact .stop (List.getElem?_eq_none (by rw[List.length_map];exact Nat.le_refl _))
theorem zpP{L:List PT}(hf:fitL L=true)(hi:okIL L):zmU (putL L false).flatten=zj L:=by
  rw[zhj (zm3 hf) (zpJ L hf)]
  have h:=zpI L hf hi [] []
  rw[List.append_nil,zd9]at h
  show zb8 ((tokQ [] _).map toKP)=_
  rw[h,zjL,zng hf]
end Go.Proofs.YtddgabjhligeeaaGreat.mk
