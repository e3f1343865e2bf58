import Derived.Test.YtddgabjhligeeaaGreatJnAP
import Derived.Test.YtddgabjhligeeaaGreatJnAQ
set_option maxHeartbeats 400000
set_option maxRecDepth 100000
namespace Go.Proofs.YtddgabjhligeeaaGreat.mk
open Go.RowKit
mutual
def PT.mapT(g:Ch->Ch):PT->PT
  | ⟨tag,attrs,kids,text⟩=>⟨g tag,attrs.map (gA g),mapL g kids,g text⟩
def mapL(g:Ch->Ch):List PT->List PT
  | []=>[]
  | t::ts=>t.mapT g::mapL g ts
end
theorem PT.mapT_eq(g:Ch->Ch)(t:PT):t.mapT g=⟨g t.tag,t.attrs.map (gA g),mapL g t.kids,g t.text⟩:=by cases t;rw[PT.mapT]
theorem zfW(g:Ch->Ch)(l:List PT):mapL g l=l.map (PT.mapT g):=by
  induction l with
  | nil=>rw[mapL];rfl
  | cons t ts ih=>rw[mapL,ih];rfl
theorem zo1:∀ l:List PT,mapL id l=l:=by
  apply PT.ind
  intro L IH
  rw[zfW]
  have key:∀ t∈L,PT.mapT id t=t:=fun t ht=>by
    rw[PT.mapT_eq,IH t ht]
    have e:t.attrs.map (gA id)=t.attrs:=List.map_id' _
    rw[e]
    exact(PT.eta t).symm
  rw[List.map_congr_left key]
  exact List.map_id' _
def mgG(g:Ch->Ch)(t:PT):PT:=(mgT t).mapT g
theorem zlW(g:Ch->Ch)(Q:List PT):mapL g (zp Q)=(sibs Q).map (mgG g):=by
  rw[zfW,zda,List.map_map]
  rfl
theorem zpS{g:Ch->Ch}(g0:g []=[])(c:Ch):mgG g (txT c)=txT (g c):=by
  unfold mgG
  rw[zn0,PT.mapT_eq]
  show PT.mk (g []) [] (mapL g []) (g c)=_
  rw[g0,mapL]
  rfl
theorem zpT{g:Ch->Ch}(g0:g []=[])(t:PT)(h:t.text=[]):mgG g t=⟨g t.tag,(zag t.attrs).map (gA g),mapL g (zp t.kids),[]⟩:=by
  unfold mgG mgT
  rw[PT.mapT_eq]
  show PT.mk (g t.tag) ((zag t.attrs).map (gA g)) (mapL g (zp t.kids)) (g t.text)=_
  rw[h,g0]
def zo2(t1:LT)(A1:Option Addr)(c1:Nat)(us:List AT)(A2:Option Addr)(c2:Nat)(ks:List TT):TT:=⟨t1,A1,us.length,c1,us,A2,ks.length,c2,ks,⟨⟨#[]⟩,none,0,0,[]⟩⟩
theorem znE(t1:LT)(A1:Option Addr)(c1:Nat)(us:List AT)(A2:Option Addr)(c2:Nat)(ks:List TT):(zo2 t1 A1 c1 us A2 c2 ks).ch=⟨t1.ch,us.map AT.ch,chL ks,[]⟩:=by
  rw[TT.ch_eq]
  show PT.mk t1.ch (us.map AT.ch) (chL ks) (LT.ch ⟨⟨#[]⟩,none,0,0,[]⟩)=_
  rw[zfc]
def zfX(g:Ch->Ch)(bo:Nat)(w:World)(pre:List TT)(K:Nat->Prop)(W:World):Prop:=
  ∃ v us,Whole W bo 27 #[v]/\W.ownsRow w.heap.size 48 6 v us.length (ze us)/\(∀ i,v.ownBlock=some i->K i)/\AllS (fun b=>K b/\b≠bo/\v.ownBlock≠some b) W us/\
    (chL us=(chL pre).map (mgG g)/\(∀ x∈us,Kz x)/\(us=[]->v=.slice none 0 0))/\K bo/\(∀ b,K b->bo<=b/\b < W.heap.size)/\Moved (fun i=>bo<=i) w W
theorem zjV{g:Ch->Ch}{bo:Nat}{w:World}:Held w.heap.size (zfX g bo w):=by
  rintro pre K W W' ⟨v,us,hw,hown,hg,hus,he,hkb,hkl,hm⟩ hz hmv
  refine⟨v,us,hmv.whole hw (fun h=>h.2 hkb),hmv.own hown (fun g h h2=>h2.2 (hg g h)),hg,hus.keep (hmv.stays fun i _ h h2=>h2.2 h.1),he,hkb,fun b hb=>⟨(hkl b hb).1,Nat.lt_of_lt_of_le (hkl b hb).2 hmv.size⟩,hm.join hmv fun i hi h=>by have:=h.1;omega⟩
def zeroTT:TT:=⟨⟨⟨#[]⟩,none,0,0,[]⟩,none,0,0,[],none,0,0,[],⟨⟨#[]⟩,none,0,0,[]⟩⟩
theorem zfk{g:Ch->Ch}{bo:Nat}{w W1 W3 W6 w7 w9:World}{pre:List TT}{K G:Nat->Prop}{x T:TT}{v v':Value}{us:List TT}{o:Obj}(hb:bo < w.heap.size)(hz1:w.heap.size<=W1.heap.size)(hz3:W1.heap.size < W3.heap.size)
    (hown:W3.ownsRow w.heap.size 48 6 v us.length (ze us)) (hg:∀ i,v.ownBlock=some i->K i) (hus:AllS (fun b=>K b/\b≠bo/\v.ownBlock≠some b) W3 us)
    (he:chL us=(chL pre).map (mgG g)/\(∀ x∈us,Kz x)/\(us=[]->v=.slice none 0 0)) (hkb:K bo) (hkl:∀ b,K b->bo<=b/\b < W1.heap.size) (hm:Moved (fun i=>bo<=i) w W3) (hm6:Moved (fun b=>b=W1.heap.size) W3 W6)
    (hT:T.inS (fun b=>W1.heap.size < b) W6) (hTK:AllS (fun b=>W1.heap.size < b) W6 T.kids) (hTC:T.ch=mgG g x.ch/\Kz T)
    (hgr:(W6.alloc o).grownBy w7 v.ownBlock) (hv':v'.ownBlock=v.ownBlock\/v'.ownBlock=some (W6.alloc o).heap.size)
    (hw9:Whole w9 bo 27 #[v']) (hown9:w9.ownsRow w.heap.size 48 6 v' (us.length+1) (ze (us++ [T]))) (hm9:Moved (fun b=>b=bo\/v'.ownBlock=some b) w7 w9) :
    ∃ K',zfX g bo w (pre++ [x]) K' w9/\(∀ b,K' b->K b\/G b\/(W1.heap.size<=b/\b < w9.heap.size))/\Moved (fun b=>K b\/G b\/W1.heap.size<=b) W3 w9:=by
  have hz6:=hm6.size
  have hz6':(W6.alloc o).heap.size=W6.heap.size+1:=by simp
  have hz7:=hgr.size
  have hz9:=hm9.size
  have hvk:∀ i,v.ownBlock=some i->w.heap.size<=i/\i < W1.heap.size:=fun i h=>⟨(hown.lt i h).1,(hkl i (hg i h)).2⟩
  have hm67:Moved (fun b=>v.ownBlock=some b) W6 w7:=
    (Moved.of_below (S:=fun b=>v.ownBlock=some b) ((Below.refl W6.heap.size W6).alloc (Nat.le_refl _) o)).join (Y:=fun b=>v.ownBlock=some b) ⟨hgr.os,hgr.tape,hgr.output,hgr.size,fun i hi hn=>hgr.block i hi (fun e=>hn e.symm)⟩ (fun i _ h=>h)
  have hv2:∀ i,v'.ownBlock=some i->v.ownBlock=some i\/i=W6.heap.size+1:=fun i h=>by
    rcases hv' with e | e
    . exact .inl (e ▸ h)
    . rw[e]at h;injection h with h;exact .inr (by omega)
  have hm69:Moved (fun b=>b=bo\/v.ownBlock=some b) W6 w9:=(hm67.mono fun i _ h=>.inr h).join hm9 fun i hi h=>by
    rcases h with h | h
    . exact .inl h
    . rcases hv2 i h with h | h
      . exact .inr h
      . omega
  have hm39:Moved (fun b=>b=W1.heap.size\/b=bo\/v.ownBlock=some b) W3 w9:=(hm6.mono fun i _ h=>.inl h).join hm69 fun i _ h=>.inr h
  refine⟨fun b=>K b\/(W1.heap.size<=b/\b < w9.heap.size),⟨v',us++ [T],hw9,by rw[List.length_append,List.length_singleton];exact hown9,?_,?_,?_,.inl hkb,?_,?_⟩,fun b h=>h.imp id .inr,hm39.mono ?_⟩
  . intro i h
    rcases hv2 i h with h2 | h2
    . exact .inl (hg i h2)
    . exact .inr ⟨by omega,(hown9.lt i h).2⟩
  . refine AllS.append ?_ ?_
    . have h1:AllS (fun b=>b < W3.heap.size/\K b/\b≠bo/\v.ownBlock≠some b) W3 us:=hus.mono fun b h hl=>⟨hl,h⟩
      refine(h1.keep (hm39.stays fun i _ h h2=>?_)).mono fun b h _=>⟨.inl h.2.1,h.2.2.1,fun h2=>?_⟩
      . rcases h2 with h2 | h2 | h2
        . have:=(hkl i h.2.1).2;omega
        . exact h.2.2.1 h2
        . exact h.2.2.2 h2
      . rcases hv2 b h2 with h3 | h3
        . exact h.2.2.2 h3
        . have:=(hkl b h.2.1).2;omega
    . have hst:Stays (fun b=>W1.heap.size < b/\b < W6.heap.size) W6 w9:=hm69.stays fun i _ h h2=>by
        rcases h2 with h2 | h2
        . omega
        . have:=(hvk i h2).2;omega
      have hsub:∀ b,(W1.heap.size < b/\b < W6.heap.size)->b < w9.heap.size->(K b\/(W1.heap.size<=b/\b < w9.heap.size))/\b≠bo/\v'.ownBlock≠some b:=fun b h hl=>⟨.inr ⟨by omega,hl⟩,by omega,fun h2=>by
        rcases hv2 b h2 with h3 | h3
        . have:=(hvk b h3).2;omega
        . omega⟩
      exact AllS.one (((hT.mono fun b h hl=>⟨h,hl⟩).keep hst).mono hsub) (((hTK.mono fun b h hl=>⟨h,hl⟩).keep hst).mono hsub)
  . refine⟨by rw[zn,he.1,zn,List.map_append,chL,chL,chL,chL,hTC.1];rfl,fun y hy=>?_,fun e=>by simp at e⟩
    rcases List.mem_append.1 hy with hy | hy
    . exact he.2.1 y hy
    . obtain rfl:=List.mem_singleton.1 hy
      exact hTC.2
  . rintro b (h | h)
    . exact⟨(hkl b h).1,by have:=(hkl b h).2;omega⟩
    . exact⟨by omega,h.2⟩
  . exact hm.join hm39 fun i hi h=>by
      rcases h with h | h | h
      . exact(by omega:bo<=i)
      . exact(by omega:bo<=i)
      . exact(hkl i (hg i h)).1
  . rintro i hi (h | h | h)
    . exact .inr (.inr (by omega))
    . exact .inl (h ▸ hkb)
    . exact .inl (hg i h)
def zh4(g:Ch->Ch)(W1 W3:World)(x T:TT)(W6:World):Prop:=
  Whole W6 W1.heap.size 48 #[.string T.tag.s,.slice T.tag.A T.tag.n T.tag.c,.slice T.A T.n T.c,.slice T.K T.kn T.kc,.string T.text.s,.slice T.text.A T.text.n T.text.c]/\Moved (fun b=>b=W1.heap.size) W3 W6/\
    T.inS (fun b=>W1.heap.size < b) W6/\AllS (fun b=>W1.heap.size < b) W6 T.kids/\(T.ch=mgG g x.ch/\Kz T)
theorem zha{g:Ch->Ch}{W1 W3:World}{x T:TT}{W6:World}(h:zh4 g W1 W3 x T W6):zh4 g W1 W3 x T W6.drew:=⟨h.1,h.2.1.drew,h.2.2.1.keep ⟨Nat.le_refl _,fun _ _ _=>rfl⟩,h.2.2.2.1.keep ⟨Nat.le_refl _,fun _ _ _=>rfl⟩,h.2.2.2.2⟩
theorem zi1{w:World}{base n c:Nat}{e:TypeId}{size:Nat}{A:Option Addr}{xs:List Value}(h:w.ownsRow base e size (.slice A n c) n xs)(hn:0 < n):∃ g,A=some ⟨g,0,none⟩:=by
  rcases h.2 with ⟨hv,_⟩ | ⟨g,cap,cur,hv,_⟩
  . injection hv with _ hv _;omega
  . injection hv with hv _ _;exact⟨g,hv⟩
theorem zlX{w:World}{base n cap g k:Nat}{us:List TT}{t:TT}(ho:w.ownsRow base 48 6 (.slice (some ⟨g,0,none⟩) n cap) n (ze us))(hk:us[k]?=some t)(hn:us.length=n) :
    w.cell? ⟨g,k * 6,none⟩=some (.string t.tag.s)/\w.cell? ⟨g,k * 6+1,none⟩=some (.slice t.tag.A t.tag.n t.tag.c)/\w.cell? ⟨g,k * 6+2,none⟩=some (.slice t.A t.n t.c)/\w.cell? ⟨g,k * 6+3,none⟩=some (.slice t.K t.kn t.kc)/\w.cell? ⟨g,k * 6+4,none⟩=some (.string t.text.s)/\w.cell? ⟨g,k * 6+5,none⟩=some (.slice t.text.A t.text.n t.text.c)/\
      w.frozen? ⟨g,k * 6,none⟩=false/\w.frozen? ⟨g,k * 6+1,none⟩=false/\w.frozen? ⟨g,k * 6+2,none⟩=false/\w.frozen? ⟨g,k * 6+3,none⟩=false/\w.frozen? ⟨g,k * 6+4,none⟩=false/\w.frozen? ⟨g,k * 6+5,none⟩=false:=by
  have hlt:=(List.getElem?_eq_some_iff.1 hk).1
  have key:∀ j,j < 6->w.cell? ⟨g,k * 6+j,none⟩=(zj t)[j]?:=fun j hj=>(ho.cellAt _ (by omega)).trans (zav us k t hk j hj)
  exact⟨key 0 (by omega),key 1 (by omega),key 2 (by omega),key 3 (by omega),key 4 (by omega),key 5 (by omega),ho.frozenAt _,ho.frozenAt _,ho.frozenAt _,ho.frozenAt _,ho.frozenAt _,ho.frozenAt _⟩
theorem zbk{w:World}{base n cap g k:Nat}{us:List TT}(T:TT)(ho:w.ownsRow base 48 6 (.slice (some ⟨g,0,none⟩) n cap) n (ze us))(hk:k < us.length) :
    let w':=(((((w.setCell ⟨g,k * 6,none⟩ (.string T.tag.s)).setCell ⟨g,k * 6+1,none⟩ (.slice T.tag.A T.tag.n T.tag.c)).setCell ⟨g,k * 6+2,none⟩ (.slice T.A T.n T.c)).setCell ⟨g,k * 6+3,none⟩ (.slice T.K T.kn T.kc)).setCell ⟨g,k * 6+4,none⟩ (.string T.text.s)).setCell ⟨g,k * 6+5,none⟩ (.slice T.text.A T.text.n T.text.c)
    w'.ownsRow base 48 6 (.slice (some ⟨g,0,none⟩) n cap) n (ze (us.set k T))/\Moved (fun b=>b=g) w w':=by
  intro w'
  have o1:=(ho.stored (k * 6) (.string T.tag.s)).1
  have o2:=(o1.stored (k * 6+1) (.slice T.tag.A T.tag.n T.tag.c)).1
  have o3:=(o2.stored (k * 6+2) (.slice T.A T.n T.c)).1
  have o4:=(o3.stored (k * 6+3) (.slice T.K T.kn T.kc)).1
  have o5:=(o4.stored (k * 6+4) (.string T.text.s)).1
  have o6:=(o5.stored (k * 6+5) (.slice T.text.A T.text.n T.text.c)).1
  refine⟨?_,?_⟩
  . rw[<-zfG us k T hk]
    exact o6
  . exact((((((Moved.refl (fun b=>b=g) w).setCell (p:=⟨g,k * 6,none⟩) rfl _).setCell (p:=⟨g,k * 6+1,none⟩) rfl _).setCell (p:=⟨g,k * 6+2,none⟩) rfl _).setCell (p:=⟨g,k * 6+3,none⟩) rfl _).setCell (p:=⟨g,k * 6+4,none⟩) rfl _).setCell (p:=⟨g,k * 6+5,none⟩) rfl _
theorem zfl{w:World}{base:Nat}{e:TypeId}{size n m c:Nat}{A:Option Addr}{xs:List Value}(h:w.ownsRow base e size (.slice A n c) n xs)(hm:m<=n):w.ownsRow base e size (.slice A m c) m (xs.take (m * size)):=by
  obtain⟨h1,h2⟩:=h
  have hms:m * size<=n * size:=Nat.mul_le_mul_right _ hm
  refine⟨by rw[List.length_take,h1];omega,?_⟩
  rcases h2 with ⟨h2,h3⟩ | ⟨g,cap,cur,hv,hb,hg,hn,hc,hs,ht⟩
  . left
    obtain rfl:m=0:=by omega
    injection h2 with e1 e2 e3
    subst e1 e3
    exact⟨rfl,rfl⟩
  . right
    injection hv with e1 e2 e3
    subst e1 e3
    exact⟨g,c,cur,rfl,hb,hg,by omega,hc,hs,by rw[<-ht,List.take_take,Nat.min_eq_left hms]⟩
theorem zeM(ts:List TT)(k:Nat):(ze ts).take (k * 6)=ze (ts.take k):=by
  induction ts generalizing k with
  | nil=>simp [ze]
  | cons t ts ih=>
    cases k with
    | zero=>simp [ze]
    | succ k=>
      have e:ze (t::ts)=zj t++ ze ts:=rfl
      have hl:(zj t).length=6:=rfl
      rw[e,List.take_append,List.take_succ_cons,List.take_of_length_le (by rw[hl];omega),hl,show(k+1) * 6 - 6=k * 6 by omega,ih]
      rfl
def TT.withK(t:TT)(K:Option Addr)(kn kc:Nat)(kids:List TT):TT:=⟨t.tag,t.A,t.n,t.c,t.atts,K,kn,kc,kids,t.text⟩
theorem zeN(fs:List TT)(t:TT)(K:Option Addr)(kn kc:Nat)(kids:List TT):(ze (fs++ [t])).set (fs.length * 6+3) (.slice K kn kc)=ze (fs++ [t.withK K kn kc kids]):=by
  rw[zL,zL,List.set_append,if_neg (by rw[zac];omega),zac,show fs.length * 6+3 - fs.length * 6=3 by omega]
  rfl
def blkA(A:Option Addr):Option Nat:=A.map (·.block)
theorem zm(A:Option Addr)(n c:Nat):(Value.slice A n c).ownBlock=blkA A:=by cases A<;>rfl
def Live(base g bm:Nat)(Ao Al:Option Addr)(fr:List TT)(b:Nat):Prop:=b=g\/b=bm\/blkA Ao=some b\/blkA Al=some b\/(∃ x∈fr,blkA x.K=some b)\/b < base
structure TT.headS (S:Nat->Prop) (w:World) (t:TT):Prop where
  tag:t.tag.inS S w
  text:t.text.inS S w
  blank:t.text.ch=[]
  att:LiesS S w t.A (zq t.atts)
  an:t.atts.length=t.n
  ac:t.A=none->t.c=0
  am:t.n<=1048576
  atts:∀ a∈t.atts,a.inS S w
theorem TT.headS.keep{S:Nat->Prop}{w w':World}{t:TT}(h:t.headS S w)(hk:Stays S w w'):t.headS S w':=⟨h.tag.keep hk,h.text.keep hk,h.blank,h.att.keep hk,h.an,h.ac,h.am,fun a ha=>(h.atts a ha).keep hk⟩
theorem TT.headS.mono{S S':Nat->Prop}{w:World}{t:TT}(h:t.headS S w)(hS:∀ b,S b->b < w.heap.size->S' b):t.headS S' w:=⟨h.tag.mono hS,h.text.mono hS,h.blank,h.att.mono hS,h.an,h.ac,h.am,fun a ha=>(h.atts a ha).mono hS⟩
theorem TT.headS.withK{S:Nat->Prop}{w:World}{t:TT}(h:t.headS S w)(K:Option Addr)(kn kc:Nat)(kids:List TT):(t.withK K kn kc kids).headS S w:=⟨h.tag,h.text,h.blank,h.att,h.an,h.ac,h.am,h.atts⟩
structure BldM (S:Nat->Prop) (w:World) (base g bm:Nat) (Ao:Option Addr) (co:Nat) (fr:List TT) (Al:Option Addr) (cl:Nat) (ls:List TT) (mn:Nat) (f:List UInt8->Int):Prop where
  box:Whole w g 58 #[.slice Ao fr.length co,.slice Al ls.length cl,.map (some bm)]
  opn:w.ownsRow base 48 6 (.slice Ao fr.length co) fr.length (ze fr)
  loo:w.ownsRow base 48 6 (.slice Al ls.length cl) ls.length (ze ls)
  kid:∀ x∈fr,w.ownsRow base 48 6 (.slice x.K x.kn x.kc) x.kn (ze x.kids)
  ap1:∀ b,blkA Ao=some b->blkA Al≠some b/\∀ x∈fr,blkA x.K≠some b
  ap2:∀ b,blkA Al=some b->∀ x∈fr,blkA x.K≠some b
  ap3:fr.Pairwise fun x y=>∀ b,blkA x.K=some b->blkA y.K≠some b
  head:∀ x∈fr,x.headS (fun b=>¬ Live base g bm Ao Al fr b) w
  kids:∀ x∈fr,AllS (fun b=>¬ Live base g bm Ao Al fr b) w x.kids
  lso:AllS S w ls
  inp:∀ b,S b->b < base
  map:MapF w bm mn f
  gb:base<=g/\base<=bm
  bw:base<=w.heap.size
section
variable {S : Nat → Prop} {w w' : World} {base g bm co cl mn : Nat} {Ao Al : Option Addr} {fr ls : List TT} {f : List UInt8 → Int}
theorem BldM.below(h:BldM S w base g bm Ao co fr Al cl ls mn f)(hb:Below w.heap.size w w'):BldM S w' base g bm Ao co fr Al cl ls mn f:=
  ⟨h.box.below hb h.box.lt,zJ h.opn hb,zJ h.loo hb,fun x hx=>zJ (h.kid x hx) hb,h.ap1,h.ap2,h.ap3,fun x hx=>(h.head x hx).keep (Stays.of hb),fun x hx=>(h.kids x hx).keep (Stays.of hb),h.lso.keep (Stays.of hb),h.inp,h.map.below hb,h.gb,Nat.le_trans h.bw hb.size⟩
theorem BldM.kln(h:BldM S w base g bm Ao co fr Al cl ls mn f){x:TT}(hx:x∈fr):x.kids.length=x.kn:=by
  have h1:=(h.kid x hx).1
  rw[zac]at h1
  omega
theorem BldM.notg(h:BldM S w base g bm Ao co fr Al cl ls mn f){n c:Nat}{A:Option Addr}{xs:List Value}(ho:w.ownsRow base 48 6 (.slice A n c) n xs){b:Nat}(hb:blkA A=some b):b≠g/\b≠bm:=by
  obtain⟨cs,h1⟩:=zaq ho (by rw[zm];exact hb)
  constructor
  . rintro rfl
    have h2:=h.box
    unfold Whole at h2
    rw[h1]at h2
    injection h2 with h2
    injection h2 with _ h2 _
    exact absurd h2 (by decide)
  . rintro rfl
    obtain⟨D,⟨es,clock,h2,_⟩,_⟩:=h.map
    rw[h1]at h2
    injection h2 with h2
    cases h2
theorem BldM.settle{fs:List TT}{t:TT}(h:BldM S w base g bm Ao co (fs++ [t]) Al cl ls mn f){ms:List TT}(hms:AllS (fun b=>¬ Live base g bm Ao Al (fs++ [t]) b) w ms){K':Option Addr}{kc':Nat}{w2:World}
    (hg:w.grownBy w2 (blkA t.K)) (hv:blkA K'=blkA t.K\/blkA K'=some w.heap.size) (ho:w2.ownsRow base 48 6 (.slice K' (t.kn+ms.length) kc') (t.kn+ms.length) (ze t.kids++ ze ms)) {bo:Nat} (hbo:Ao=some ⟨bo,0,none⟩) :
    BldM S (w2.setCell ⟨bo,fs.length * 6+3,none⟩ (.slice K' (t.kn+ms.length) kc')) base g bm Ao co (fs++ [t.withK K' (t.kn+ms.length) kc' (t.kids++ ms)]) Al cl ls mn f:=by
  have hto:t∈fs++ [t]:=by simp
  have hkt:=h.kid t hto
  have hlt:=h.opn.lt
  have hob:blkA Ao=some bo:=by rw[hbo];rfl
  have hbolt:base<=bo/\bo < w.heap.size:=hlt bo (by rw[zm];exact hob)
  have htk:∀ b,blkA t.K=some b->base<=b/\b < w.heap.size:=fun b hb=>hkt.lt b (by rw[zm];exact hb)
  obtain⟨hng,hnbm⟩:=h.notg h.opn hob
  have hfar:∀ b,b < w.heap.size->blkA t.K≠some b->b≠bo->(w2.setCell ⟨bo,fs.length * 6+3,none⟩ (.slice K' (t.kn+ms.length) kc')).heap[b]?=w.heap[b]?:=fun b hb h1 h2=>
    (Below.heap_setCell w2 _ _ b h2).trans (hg.block b hb (fun e=>h1 e.symm))
  have hk':∀ b,blkA K'=some b->blkA t.K=some b\/b=w.heap.size:=fun b hb=>by
    rcases hv with hv | hv
    . exact .inl (hv ▸ hb)
    . rw[hv]at hb;injection hb with hb;exact .inr hb.symm
  have hst:∀ P:Nat->Prop,(∀ b,P b->blkA t.K≠some b/\b≠bo)->Stays P w (w2.setCell ⟨bo,fs.length * 6+3,none⟩ (.slice K' (t.kn+ms.length) kc')):=fun P hP=>
    ⟨by rw[World.size_setCell];exact hg.size,fun b hb hl=>hfar b hl (hP b hb).1 (hP b hb).2⟩
  have hL:∀ b,¬ Live base g bm Ao Al (fs++ [t]) b->b < w.heap.size->¬ Live base g bm Ao Al (fs++ [t.withK K' (t.kn+ms.length) kc' (t.kids++ ms)]) b:=by
    intro b hb hl hb'
    rcases hb' with e | e | e | e | ⟨x,hx,e⟩ | e
    . exact hb (.inl e)
    . exact hb (.inr (.inl e))
    . exact hb (.inr (.inr (.inl e)))
    . exact hb (.inr (.inr (.inr (.inl e))))
    . rcases List.mem_append.1 hx with hx | hx
      . exact hb (.inr (.inr (.inr (.inr (.inl ⟨x,by simp [hx],e⟩)))))
      . obtain rfl:=List.mem_singleton.1 hx
        rcases hk' b e with e | e
        . exact hb (.inr (.inr (.inr (.inr (.inl ⟨t,hto,e⟩)))))
        . omega
    . exact hb (.inr (.inr (.inr (.inr (.inr e)))))
  have hLf:∀ b,¬ Live base g bm Ao Al (fs++ [t]) b->blkA t.K≠some b/\b≠bo:=fun b hb=>
    ⟨fun e=>hb (.inr (.inr (.inr (.inr (.inl ⟨t,hto,e⟩))))),fun e=>hb (.inr (.inr (.inl (by rw[hob,e]))))⟩
  have hmove:∀ ts,AllS (fun b=>¬ Live base g bm Ao Al (fs++ [t]) b) w ts->AllS (fun b=>¬ Live base g bm Ao Al (fs++ [t.withK K' (t.kn+ms.length) kc' (t.kids++ ms)]) b) (w2.setCell ⟨bo,fs.length * 6+3,none⟩ (.slice K' (t.kn+ms.length) kc')) ts:=fun ts hts=>
    ((hts.mono (S':=fun b=>¬ Live base g bm Ao Al (fs++ [t]) b/\¬ Live base g bm Ao Al (fs++ [t.withK K' (t.kn+ms.length) kc' (t.kids++ ms)]) b) (fun b hb hl=>⟨hb,hL b hb hl⟩)).keep (hst _ fun b hb=>hLf b hb.1)).mono fun b hb _=>hb.2
  have hmoveH:∀ x:TT,x.headS (fun b=>¬ Live base g bm Ao Al (fs++ [t]) b) w->x.headS (fun b=>¬ Live base g bm Ao Al (fs++ [t.withK K' (t.kn+ms.length) kc' (t.kids++ ms)]) b) (w2.setCell ⟨bo,fs.length * 6+3,none⟩ (.slice K' (t.kn+ms.length) kc')):=fun x hx=>
    ((hx.mono (S':=fun b=>¬ Live base g bm Ao Al (fs++ [t]) b/\¬ Live base g bm Ao Al (fs++ [t.withK K' (t.kn+ms.length) kc' (t.kids++ ms)]) b) (fun b hb hl=>⟨hb,hL b hb hl⟩)).keep (hst _ fun b hb=>hLf b hb.1)).mono fun b hb _=>hb.2
  have hp3:=List.pairwise_append.1 h.ap3
  have hln:(fs++ [t.withK K' (t.kn+ms.length) kc' (t.kids++ ms)]).length=(fs++ [t]).length:=by rw[List.length_append,List.length_append];rfl
  refine⟨?_,?_,?_,?_,?_,?_,?_,?_,?_,?_,h.inp,?_,h.gb,?_⟩
  . rw[hln]
    exact h.box.same (hfar g h.box.lt (fun e=>(h.notg hkt e).1 rfl) (fun e=>hng e.symm))
  . rw[hln,<-zeN]
    have h2:w2.ownsRow base 48 6 (.slice Ao (fs++ [t]).length co) (fs++ [t]).length (ze (fs++ [t])):=zax h.opn fun k hk=>hg.block k (hlt k hk).2 fun e=>by
      rw[zm]at hk
      exact(h.ap1 k hk).2 t hto e.symm
    rw[hbo]at h2 ⊢
    exact(h2.stored _ _).1
  . refine zax h.loo fun k hk=>?_
    rw[zm]at hk
    exact hfar k (h.loo.lt k (by rw[zm];exact hk)).2 (h.ap2 k hk t hto) (fun e=>(h.ap1 bo hob).1 (e ▸ hk))
  . intro x hx
    rcases List.mem_append.1 hx with hx | hx
    . have hxm:x∈fs++ [t]:=by simp [hx]
      refine zax (h.kid x hxm) fun k hk=>?_
      rw[zm]at hk
      exact hfar k ((h.kid x hxm).lt k (by rw[zm];exact hk)).2 (fun e=>hp3.2.2 x hx t (by simp) k hk e) (fun e=>(h.ap1 bo hob).2 x hxm (e ▸ hk))
    . obtain rfl:=List.mem_singleton.1 hx
      show World.ownsRow _ _ _ _ (.slice K' (t.kn+ms.length) kc') (t.kn+ms.length) (ze (t.kids++ ms))
      rw[zao]
      refine zS ho _ (fun e=>?_) _
      rw[zm]at e
      rcases hk' bo e with e | e
      . exact(h.ap1 bo hob).2 t hto e
      . omega
  . intro b hb
    refine⟨(h.ap1 b hb).1,fun x hx=>?_⟩
    rcases List.mem_append.1 hx with hx | hx
    . exact(h.ap1 b hb).2 x (by simp [hx])
    . obtain rfl:=List.mem_singleton.1 hx
      intro e
      rcases hk' b e with e | e
      . exact(h.ap1 b hb).2 t hto e
      . have:=(hlt b (by rw[zm];exact hb)).2;omega
  . intro b hb x hx
    rcases List.mem_append.1 hx with hx | hx
    . exact h.ap2 b hb x (by simp [hx])
    . obtain rfl:=List.mem_singleton.1 hx
      intro e
      rcases hk' b e with e | e
      . exact h.ap2 b hb t hto e
      . have:=(h.loo.lt b (by rw[zm];exact hb)).2;omega
  . refine List.pairwise_append.2 ⟨hp3.1,by simp,fun x hx y hy b hb e=>?_⟩
    obtain rfl:=List.mem_singleton.1 hy
    have hxm:x∈fs++ [t]:=by simp [hx]
    rcases hk' b e with e | e
    . exact hp3.2.2 x hx t (by simp) b hb e
    . have:=((h.kid x hxm).lt b (by rw[zm];exact hb)).2;omega
  . intro x hx
    rcases List.mem_append.1 hx with hx | hx
    . exact hmoveH x (h.head x (by simp [hx]))
    . obtain rfl:=List.mem_singleton.1 hx
      exact(hmoveH t (h.head t hto)).withK _ _ _ _
  . intro x hx
    rcases List.mem_append.1 hx with hx | hx
    . exact hmove _ (h.kids x (by simp [hx]))
    . obtain rfl:=List.mem_singleton.1 hx
      exact hmove _ ((h.kids t hto).append hms)
  . refine h.lso.keep (hst S fun b hb=>⟨fun e=>?_,fun e=>?_⟩)
    . have:=(htk b e).1;have:=h.inp b hb;omega
    . have:=h.inp b hb;omega
  . refine h.map.same (hfar bm h.map.lt (fun e=>(h.notg hkt e).2 rfl) (fun e=>hnbm e.symm))
  . rw[World.size_setCell];exact Nat.le_trans h.bw hg.size
theorem BldM.noLoose(h:BldM S w base g bm Ao co fr Al cl ls mn f):BldM S (w.setCell ⟨g,1,none⟩ (.slice Al 0 cl)) base g bm Ao co fr Al cl [] mn f:=by
  have hst:∀ P:Nat->Prop,(∀ b,P b->b≠g)->Stays P w (w.setCell ⟨g,1,none⟩ (.slice Al 0 cl)):=fun P hP=>
    ⟨by rw[World.size_setCell];exact Nat.le_refl _,fun b hb _=>Below.heap_setCell w ⟨g,1,none⟩ _ b (hP b hb)⟩
  have hfar:∀ {n c:Nat} {A:Option Addr} {xs:List Value},w.ownsRow base 48 6 (.slice A n c) n xs->(w.setCell ⟨g,1,none⟩ (.slice Al 0 cl)).ownsRow base 48 6 (.slice A n c) n xs:=fun ho=>
    zS ho _ (fun e=>by rw[zm]at e;exact(h.notg ho e).1 rfl) _
  refine⟨h.box.put 1 _,hfar h.opn,?_,fun x hx=>hfar (h.kid x hx),h.ap1,h.ap2,h.ap3,fun x hx=>(h.head x hx).keep (hst _ fun b hb e=>hb (.inl e)),fun x hx=>(h.kids x hx).keep (hst _ fun b hb e=>hb (.inl e)),AllS.nil _ _,h.inp,?_,h.gb,by rw[World.size_setCell];exact h.bw⟩
  . have h1:=zfl (hfar h.loo) (Nat.zero_le _)
    rw[Nat.zero_mul,List.take_zero]at h1
    exact h1
  . refine h.map.same (Below.heap_setCell w ⟨g,1,none⟩ _ bm fun e=>?_)
    have e:bm=g:=e
    subst e
    obtain⟨D,⟨es,clock,h2,_⟩,_⟩:=h.map
    have h3:=h.box
    unfold Whole at h3
    rw[h2]at h3
    injection h3 with h3
    cases h3
theorem BldM.at0(h:BldM S w base g bm Ao co fr Al cl ls mn f):w.cell? ⟨g,0,none⟩=some (.slice Ao fr.length co):=h.box.at_ 0
theorem BldM.at1(h:BldM S w base g bm Ao co fr Al cl ls mn f):w.cell? ⟨g,1,none⟩=some (.slice Al ls.length cl):=h.box.at_ 1
theorem BldM.at2(h:BldM S w base g bm Ao co fr Al cl ls mn f):w.cell? ⟨g,2,none⟩=some (.map (some bm)):=h.box.at_ 2
theorem BldM.cellsL{fs:List TT}{t:TT}(h:BldM S w base g bm Ao co (fs++ [t]) Al cl ls mn f):∃ bo,Ao=some ⟨bo,0,none⟩/\bo < w.heap.size/\w.cell? ⟨bo,fs.length * 6,none⟩=some (.string t.tag.s)/\w.cell? ⟨bo,fs.length * 6+1,none⟩=some (.slice t.tag.A t.tag.n t.tag.c)/\w.cell? ⟨bo,fs.length * 6+2,none⟩=some (.slice t.A t.n t.c)/\
    w.cell? ⟨bo,fs.length * 6+3,none⟩=some (.slice t.K t.kn t.kc)/\w.cell? ⟨bo,fs.length * 6+4,none⟩=some (.string t.text.s)/\w.cell? ⟨bo,fs.length * 6+5,none⟩=some (.slice t.text.A t.text.n t.text.c)/\(∀ j,w.frozen? ⟨bo,j,none⟩=false):=by
  have ho:=h.opn
  rcases ho.2 with ⟨_,hn⟩ | ⟨bo,cap,cur,hv,_,hg,_⟩
  . rw[List.length_append]at hn
    have:[t].length=1:=rfl
    omega
  . injection hv with e1 e2 e3
    subst e1
    have ht:(fs++ [t])[fs.length]?=some t:=by rw[List.getElem?_append_right (Nat.le_refl _),Nat.sub_self];rfl
    have key:∀ j u,j < 6->(zj t)[j]?=some u->w.cell? ⟨bo,fs.length * 6+j,none⟩=some u:=fun j u hj hu=>by
      obtain⟨ad,e,_,hc⟩:=Lies.own ho _ _ ((zav _ _ t ht j hj).trans hu)
      injection e with e
      subst e
      have e2:((⟨bo,0,none⟩:Addr).add (fs.length * 6+j))=⟨bo,fs.length * 6+j,none⟩:=by unfold Addr.add;split<;>simp_all
      rw[<-e2]
      exact hc
    exact⟨bo,rfl,(Array.getElem?_eq_some_iff.1 hg).1,key 0 _ (by omega) rfl,key 1 _ (by omega) rfl,key 2 _ (by omega) rfl,key 3 _ (by omega) rfl,key 4 _ (by omega) rfl,key 5 _ (by omega) rfl,fun j=>frozen_of_row w bo j cur _ hg⟩
end
theorem zbl(b i:Nat):(⟨b,0,none⟩:Addr).add i=⟨b,i,none⟩:=by
  unfold Addr.add
  split
  . subst_vars;rfl
  . simp
theorem zb3(g bo k n c:Nat)(w:World)(hn:n=k+1)(hc:w.cell? ⟨g,0,none⟩=some (.slice (some ⟨bo,0,none⟩) n c))(hk:k<=4294967296) :
    Calls Tryz.prog 62 #[.pointer (some ⟨g,0,none⟩)] w fun e w'=>e=.returned (.pointer (some ⟨bo,k * 6,none⟩))/\∃ n,w'=w.drewN n:=by
  have hw:IntKind.i64.wrap ((n:Int) - 1)=(k:Int):=by rw[show(n:Int) - 1=(k:Int) by omega];exact IntWalk.i64_in _ (by omega)
  have hp:(n:Int) - 1=(k:Int):=by omega
  have hwk:IntKind.i64.wrap (k:Int)=(k:Int):=IntWalk.i64_in _ (by omega)
  have hk2:(k:Int) < (n:Int):=by omega
  have hk0:(0:Int)<=(k:Int):=Int.natCast_nonneg _
  clear hn
  have HAF:=Lib.hid (zbl bo (k * 6))
  go_enter Tryz.func62,Tryz.ntmps62
  go_wp2_with fail
  go_region_held3 (fun V=>V.cell? ⟨g,0,none⟩=some (.slice (some ⟨bo,0,none⟩) n c)) (exact hc) (fail)
  go_wp2_with fail
  go_ret
  refine⟨by rw[<-HAF.out];rfl,1,rfl⟩
theorem zy(w:World)(p q:Addr)(h:p.block≠q.block)(u v:Value):(w.setCell p u).setCell q v=(w.setCell q v).setCell p u:=by
  unfold World.setCell
  congr 1
  apply Array.ext_getElem?
  intro i
  simp only[Array.getElem?_modify]
  by_cases h1:p.block=i
  . subst h1
    have h':¬ q.block=p.block:=Ne.symm h
    simp [h']
  . by_cases h2:q.block=i
    . subst h2
      simp [h]
    . simp [h1,h2]
section
variable {S : Nat → Prop} {w w' : World} {base g bm co cl mn : Nat} {Ao Al : Option Addr} {fr ls : List TT} {f : List UInt8 → Int}
theorem BldM.gbm(h:BldM S w base g bm Ao co fr Al cl ls mn f):bm≠g:=by
  intro e
  subst e
  obtain⟨D,⟨es,clock,h2,_⟩,_⟩:=h.map
  have h3:=h.box
  unfold Whole at h3
  rw[h2]at h3
  injection h3 with h3
  cases h3
theorem BldM.count(h:BldM S w base g bm Ao co fr Al cl ls mn f){mn':Nat}{f':List UInt8->Int}(hg:w.grownBy w' (some bm))(hm:MapF w' bm mn' f'):BldM S w' base g bm Ao co fr Al cl ls mn' f':=by
  have hst:∀ P:Nat->Prop,(∀ b,P b->b≠bm)->Stays P w w':=fun P hP=>⟨hg.size,fun b hb hl=>hg.block b hl (fun e=>hP b hb (by injection e))⟩
  have hfar:∀ {n c:Nat} {A:Option Addr} {xs:List Value},w.ownsRow base 48 6 (.slice A n c) n xs->w'.ownsRow base 48 6 (.slice A n c) n xs:=fun ho=>
    zax ho fun k hk=>hg.block k (ho.lt k hk).2 fun e=>by
      rw[zm]at hk
      injection e with e
      exact(h.notg ho hk).2 e
  refine⟨h.box.same (hg.block g h.box.lt fun e=>by injection e with e;exact h.gbm e.symm),hfar h.opn,hfar h.loo,fun x hx=>hfar (h.kid x hx),h.ap1,h.ap2,h.ap3,fun x hx=>(h.head x hx).keep (hst _ fun b hb e=>hb (.inr (.inl e))),fun x hx=>(h.kids x hx).keep (hst _ fun b hb e=>hb (.inr (.inl e))),h.lso.keep (hst S fun b hb e=>?_),h.inp,hm,h.gb,Nat.le_trans h.bw hg.size⟩
  have:=h.inp b hb
  have:=h.gb.2
  omega
theorem BldM.pop{fs:List TT}{t:TT}(h:BldM S w base g bm Ao co (fs++ [t]) Al cl ls mn f)(hkm:t.kn<=1048576) :
    BldM S (w.setCell ⟨g,0,none⟩ (.slice Ao fs.length co)) base g bm Ao co fs Al cl ls mn f/\AllS (fun b=>¬ Live base g bm Ao Al fs b) (w.setCell ⟨g,0,none⟩ (.slice Ao fs.length co)) [t]:=by
  have hto:t∈fs++ [t]:=by simp
  have hsub:∀ x∈fs,x∈fs++ [t]:=fun x hx=>by simp [hx]
  have hL:∀ b,¬ Live base g bm Ao Al (fs++ [t]) b->¬ Live base g bm Ao Al fs b:=by
    intro b hb hb'
    rcases hb' with e | e | e | e | ⟨x,hx,e⟩ | e
    . exact hb (.inl e)
    . exact hb (.inr (.inl e))
    . exact hb (.inr (.inr (.inl e)))
    . exact hb (.inr (.inr (.inr (.inl e))))
    . exact hb (.inr (.inr (.inr (.inr (.inl ⟨x,hsub x hx,e⟩)))))
    . exact hb (.inr (.inr (.inr (.inr (.inr e)))))
  have hst:∀ P:Nat->Prop,(∀ b,P b->b≠g)->Stays P w (w.setCell ⟨g,0,none⟩ (.slice Ao fs.length co)):=fun P hP=>
    ⟨by rw[World.size_setCell];exact Nat.le_refl _,fun b hb _=>Below.heap_setCell w ⟨g,0,none⟩ _ b (hP b hb)⟩
  have hfar:∀ {n c:Nat} {A:Option Addr} {xs:List Value},w.ownsRow base 48 6 (.slice A n c) n xs->(w.setCell ⟨g,0,none⟩ (.slice Ao fs.length co)).ownsRow base 48 6 (.slice A n c) n xs:=fun ho=>
    zS ho _ (fun e=>by rw[zm]at e;exact(h.notg ho e).1 rfl) _
  have hp3:=List.pairwise_append.1 h.ap3
  have hpre:=zfl (m:=fs.length) (hfar h.opn) (by rw[List.length_append];omega)
  rw[zeM,List.take_left' rfl]at hpre
  constructor
  . exact⟨h.box.put 0 _,hpre,hfar h.loo,fun x hx=>hfar (h.kid x (hsub x hx)),fun b hb=>⟨(h.ap1 b hb).1,fun x hx=>(h.ap1 b hb).2 x (hsub x hx)⟩,fun b hb x hx=>h.ap2 b hb x (hsub x hx),hp3.1,
      fun x hx=>((h.head x (hsub x hx)).mono fun b hb _=>hL b hb).keep (hst _ fun b hb e=>hb (.inl e)),fun x hx=>((h.kids x (hsub x hx)).mono fun b hb _=>hL b hb).keep (hst _ fun b hb e=>hb (.inl e)),h.lso.keep (hst S fun b hb e=>by have:=h.inp b hb;have:=h.gb.1;omega),h.inp,
      h.map.same (Below.heap_setCell w ⟨g,0,none⟩ _ bm h.gbm),h.gb,by rw[World.size_setCell];exact h.bw⟩
  . have hh:=h.head t hto
    have hkt:=h.kid t hto
    refine(AllS.one (S:=fun b=>¬ Live base g bm Ao Al fs b) ?_ ((h.kids t hto).mono fun b hb _=>hL b hb)).keep (hst _ fun b hb e=>hb (.inl e))
    refine⟨hh.tag.mono fun b hb _=>hL b hb,hh.text.mono fun b hb _=>hL b hb,hh.att.mono fun b hb _=>hL b hb,hh.an,hh.ac,hh.am,fun a ha=>(hh.atts a ha).mono fun b hb _=>hL b hb,?_,h.kln hto,?_,hkm⟩
    . intro j u hu
      obtain⟨ad,e,hb,hc⟩:=Lies.own hkt j u hu
      refine⟨ad,e,?_,hb,hc⟩
      have hbk:blkA t.K=some ad.block:=by rw[e];rfl
      obtain⟨n1,n2⟩:=h.notg hkt hbk
      rintro(e | e | e | e | ⟨x,hx,e⟩ | e)
      . exact n1 e
      . exact n2 e
      . exact(h.ap1 _ e).2 t hto hbk
      . exact h.ap2 _ e t hto hbk
      . exact hp3.2.2 x hx t (by simp) _ e hbk
      . have:=(hkt.lt _ (by rw[zm];exact hbk)).1;omega
    . obtain⟨A,c,e,hA,_⟩:=zh hkt
      injection e with e1 e2 e3
      subst e1 e3
      exact hA
theorem BldM.pushOpen{t:TT}(h:BldM S w base g bm Ao co fr Al cl ls mn f)(hh:t.headS (fun b=>¬ Live base g bm Ao Al fr b) w)(hkd:t.kids=[])(hK:t.K=none)(hkn:t.kn=0)(hkc:t.kc=0){Ao':Option Addr}{co':Nat}{w2:World}
    (hg:w.grownBy w2 (blkA Ao)) (hv:blkA Ao'=blkA Ao\/blkA Ao'=some w.heap.size) (ho:w2.ownsRow base 48 6 (.slice Ao' (fr.length+1) co') (fr.length+1) (ze fr++ zj t)) :
    BldM S (w2.setCell ⟨g,0,none⟩ (.slice Ao' (fr.length+1) co')) base g bm Ao' co' (fr++ [t]) Al cl ls mn f:=by
  have hlt:∀ b,blkA Ao=some b->base<=b/\b < w.heap.size:=fun b hb=>h.opn.lt b (by rw[zm];exact hb)
  have hfar:∀ b,b < w.heap.size->blkA Ao≠some b->b≠g->(w2.setCell ⟨g,0,none⟩ (.slice Ao' (fr.length+1) co')).heap[b]?=w.heap[b]?:=fun b hb h1 h2=>
    (Below.heap_setCell w2 _ _ b h2).trans (hg.block b hb (fun e=>h1 e.symm))
  have hk':∀ b,blkA Ao'=some b->blkA Ao=some b\/b=w.heap.size:=fun b hb=>by
    rcases hv with hv | hv
    . exact .inl (hv ▸ hb)
    . rw[hv]at hb;injection hb with hb;exact .inr hb.symm
  have hst:∀ P:Nat->Prop,(∀ b,P b->blkA Ao≠some b/\b≠g)->Stays P w (w2.setCell ⟨g,0,none⟩ (.slice Ao' (fr.length+1) co')):=fun P hP=>
    ⟨by rw[World.size_setCell];exact hg.size,fun b hb hl=>hfar b hl (hP b hb).1 (hP b hb).2⟩
  have hL:∀ b,¬ Live base g bm Ao Al fr b->b < w.heap.size->¬ Live base g bm Ao' Al (fr++ [t]) b:=by
    intro b hb hl hb'
    rcases hb' with e | e | e | e | ⟨x,hx,e⟩ | e
    . exact hb (.inl e)
    . exact hb (.inr (.inl e))
    . rcases hk' b e with e | e
      . exact hb (.inr (.inr (.inl e)))
      . omega
    . exact hb (.inr (.inr (.inr (.inl e))))
    . rcases List.mem_append.1 hx with hx | hx
      . exact hb (.inr (.inr (.inr (.inr (.inl ⟨x,hx,e⟩)))))
      . obtain rfl:=List.mem_singleton.1 hx
        rw[hK]at e
        cases e
    . exact hb (.inr (.inr (.inr (.inr (.inr e)))))
  have hLf:∀ b,¬ Live base g bm Ao Al fr b->blkA Ao≠some b/\b≠g:=fun b hb=>⟨fun e=>hb (.inr (.inr (.inl e))),fun e=>hb (.inl e)⟩
  have hmove:∀ ts,AllS (fun b=>¬ Live base g bm Ao Al fr b) w ts->AllS (fun b=>¬ Live base g bm Ao' Al (fr++ [t]) b) (w2.setCell ⟨g,0,none⟩ (.slice Ao' (fr.length+1) co')) ts:=fun ts hts=>
    ((hts.mono (S':=fun b=>¬ Live base g bm Ao Al fr b/\¬ Live base g bm Ao' Al (fr++ [t]) b) (fun b hb hl=>⟨hb,hL b hb hl⟩)).keep (hst _ fun b hb=>hLf b hb.1)).mono fun b hb _=>hb.2
  have hmoveH:∀ x:TT,x.headS (fun b=>¬ Live base g bm Ao Al fr b) w->x.headS (fun b=>¬ Live base g bm Ao' Al (fr++ [t]) b) (w2.setCell ⟨g,0,none⟩ (.slice Ao' (fr.length+1) co')):=fun x hx=>
    ((hx.mono (S':=fun b=>¬ Live base g bm Ao Al fr b/\¬ Live base g bm Ao' Al (fr++ [t]) b) (fun b hb hl=>⟨hb,hL b hb hl⟩)).keep (hst _ fun b hb=>hLf b hb.1)).mono fun b hb _=>hb.2
  have hln:(fr++ [t]).length=fr.length+1:=by rw[List.length_append];rfl
  have hag:∀ {n c:Nat} {A:Option Addr} {xs:List Value},w.ownsRow base 48 6 (.slice A n c) n xs->(∀ b,blkA A=some b->blkA Ao≠some b)->(w2.setCell ⟨g,0,none⟩ (.slice Ao' (fr.length+1) co')).ownsRow base 48 6 (.slice A n c) n xs:=fun hr hne=>
    zax hr fun k hk=>by
      rw[zm]at hk
      exact hfar k (hr.lt k (by rw[zm];exact hk)).2 (hne k hk) (h.notg hr hk).1
  have hgn:blkA Ao≠some g:=fun e=>(h.notg h.opn e).1 rfl
  have hgo:blkA Ao'≠some g:=fun e=>by
    rcases hk' g e with e | e
    . exact hgn e
    . have:=h.box.lt;omega
  refine⟨?_,?_,hag h.loo (fun b hb e=>(h.ap1 b e).1 hb),?_,?_,?_,?_,?_,?_,?_,h.inp,?_,h.gb,?_⟩
  . rw[hln]
    have hb2:Whole w2 g 58 #[.slice Ao fr.length co,.slice Al ls.length cl,.map (some bm)]:=h.box.grown hg (fun e=>hgn e.symm)
    exact hb2.put 0 _
  . rw[hln,zL]
    exact zS ho _ (fun e=>by rw[zm]at e;exact hgo e) _
  . intro x hx
    rcases List.mem_append.1 hx with hx | hx
    . exact hag (h.kid x hx) (fun b hb e=>(h.ap1 b e).2 x hx hb)
    . obtain rfl:=List.mem_singleton.1 hx
      rw[hK,hkn,hkc,hkd]
      exact World.ownsRow_nil _ _ _ _
  . intro b hb
    have hnew:∀ {A:Option Addr} {n c:Nat} {xs:List Value},w.ownsRow base 48 6 (.slice A n c) n xs->(∀ b,blkA Ao=some b->blkA A≠some b)->blkA A≠some b:=fun hr hne e=>by
      rcases hk' b hb with h1 | h1
      . exact hne b h1 e
      . have:=(hr.lt b (by rw[zm];exact e)).2;omega
    refine⟨hnew h.loo (fun b hb=>(h.ap1 b hb).1),fun x hx=>?_⟩
    rcases List.mem_append.1 hx with hx | hx
    . exact hnew (h.kid x hx) (fun b hb=>(h.ap1 b hb).2 x hx)
    . obtain rfl:=List.mem_singleton.1 hx
      rw[hK]
      intro e
      cases e
  . intro b hb x hx
    rcases List.mem_append.1 hx with hx | hx
    . exact h.ap2 b hb x hx
    . obtain rfl:=List.mem_singleton.1 hx
      rw[hK]
      intro e
      cases e
  . refine List.pairwise_append.2 ⟨h.ap3,by simp,fun x hx y hy b hb e=>?_⟩
    obtain rfl:=List.mem_singleton.1 hy
    rw[hK]at e
    cases e
  . intro x hx
    rcases List.mem_append.1 hx with hx | hx
    . exact hmoveH x (h.head x hx)
    . obtain rfl:=List.mem_singleton.1 hx
      exact hmoveH x hh
  . intro x hx
    rcases List.mem_append.1 hx with hx | hx
    . exact hmove _ (h.kids x hx)
    . obtain rfl:=List.mem_singleton.1 hx
      rw[hkd]
      exact AllS.nil _ _
  . refine h.lso.keep (hst S fun b hb=>⟨fun e=>?_,fun e=>?_⟩)
    . have:=(hlt b e).1;have:=h.inp b hb;omega
    . have:=h.inp b hb;have:=h.gb.1;omega
  . exact h.map.same (hfar bm h.map.lt (fun e=>(h.notg h.opn e).2 rfl) h.gbm)
  . rw[World.size_setCell];exact Nat.le_trans h.bw hg.size
theorem BldM.pushLoose{x:TT}(h:BldM S w base g bm Ao co fr Al cl ls mn f)(hx:AllS S w [x]){Al':Option Addr}{cl':Nat}{w2:World}
    (hg:w.grownBy w2 (blkA Al)) (hv:blkA Al'=blkA Al\/blkA Al'=some w.heap.size) (ho:w2.ownsRow base 48 6 (.slice Al' (ls.length+1) cl') (ls.length+1) (ze ls++ ze [x])) :
    BldM S (w2.setCell ⟨g,1,none⟩ (.slice Al' (ls.length+1) cl')) base g bm Ao co fr Al' cl' (ls++ [x]) mn f:=by
  have hlt:∀ b,blkA Al=some b->base<=b/\b < w.heap.size:=fun b hb=>h.loo.lt b (by rw[zm];exact hb)
  have hfar:∀ b,b < w.heap.size->blkA Al≠some b->b≠g->(w2.setCell ⟨g,1,none⟩ (.slice Al' (ls.length+1) cl')).heap[b]?=w.heap[b]?:=fun b hb h1 h2=>
    (Below.heap_setCell w2 _ _ b h2).trans (hg.block b hb (fun e=>h1 e.symm))
  have hk':∀ b,blkA Al'=some b->blkA Al=some b\/b=w.heap.size:=fun b hb=>by
    rcases hv with hv | hv
    . exact .inl (hv ▸ hb)
    . rw[hv]at hb;injection hb with hb;exact .inr hb.symm
  have hst:∀ P:Nat->Prop,(∀ b,P b->blkA Al≠some b/\b≠g)->Stays P w (w2.setCell ⟨g,1,none⟩ (.slice Al' (ls.length+1) cl')):=fun P hP=>
    ⟨by rw[World.size_setCell];exact hg.size,fun b hb hl=>hfar b hl (hP b hb).1 (hP b hb).2⟩
  have hL:∀ b,¬ Live base g bm Ao Al fr b->b < w.heap.size->¬ Live base g bm Ao Al' fr b:=by
    intro b hb hl hb'
    rcases hb' with e | e | e | e | e
    . exact hb (.inl e)
    . exact hb (.inr (.inl e))
    . exact hb (.inr (.inr (.inl e)))
    . rcases hk' b e with e | e
      . exact hb (.inr (.inr (.inr (.inl e))))
      . omega
    . exact hb (.inr (.inr (.inr (.inr e))))
  have hLf:∀ b,¬ Live base g bm Ao Al fr b->blkA Al≠some b/\b≠g:=fun b hb=>⟨fun e=>hb (.inr (.inr (.inr (.inl e)))),fun e=>hb (.inl e)⟩
  have hmove:∀ ts,AllS (fun b=>¬ Live base g bm Ao Al fr b) w ts->AllS (fun b=>¬ Live base g bm Ao Al' fr b) (w2.setCell ⟨g,1,none⟩ (.slice Al' (ls.length+1) cl')) ts:=fun ts hts=>
    ((hts.mono (S':=fun b=>¬ Live base g bm Ao Al fr b/\¬ Live base g bm Ao Al' fr b) (fun b hb hl=>⟨hb,hL b hb hl⟩)).keep (hst _ fun b hb=>hLf b hb.1)).mono fun b hb _=>hb.2
  have hmoveH:∀ x:TT,x.headS (fun b=>¬ Live base g bm Ao Al fr b) w->x.headS (fun b=>¬ Live base g bm Ao Al' fr b) (w2.setCell ⟨g,1,none⟩ (.slice Al' (ls.length+1) cl')):=fun x hx=>
    ((hx.mono (S':=fun b=>¬ Live base g bm Ao Al fr b/\¬ Live base g bm Ao Al' fr b) (fun b hb hl=>⟨hb,hL b hb hl⟩)).keep (hst _ fun b hb=>hLf b hb.1)).mono fun b hb _=>hb.2
  have hln:(ls++ [x]).length=ls.length+1:=by rw[List.length_append];rfl
  have hag:∀ {n c:Nat} {A:Option Addr} {xs:List Value},w.ownsRow base 48 6 (.slice A n c) n xs->(∀ b,blkA A=some b->blkA Al≠some b)->(w2.setCell ⟨g,1,none⟩ (.slice Al' (ls.length+1) cl')).ownsRow base 48 6 (.slice A n c) n xs:=fun hr hne=>
    zax hr fun k hk=>by
      rw[zm]at hk
      exact hfar k (hr.lt k (by rw[zm];exact hk)).2 (hne k hk) (h.notg hr hk).1
  have hgn:blkA Al≠some g:=fun e=>(h.notg h.loo e).1 rfl
  have hgo:blkA Al'≠some g:=fun e=>by
    rcases hk' g e with e | e
    . exact hgn e
    . have:=h.box.lt;omega
  have hin:∀ b,S b->blkA Al≠some b/\b≠g:=fun b hb=>by
    have h1:=h.inp b hb
    have h2:=h.gb.1
    exact⟨fun e=>by have:=(hlt b e).1;omega,by omega⟩
  refine⟨?_,hag h.opn (fun b hb=>(h.ap1 b hb).1),?_,fun y hy=>hag (h.kid y hy) (fun b hb e=>h.ap2 b e y hy hb),?_,?_,h.ap3,fun y hy=>hmoveH y (h.head y hy),fun y hy=>hmove _ (h.kids y hy),(h.lso.append hx).keep (hst S hin),h.inp,h.map.same (hfar bm h.map.lt (fun e=>(h.notg h.loo e).2 rfl) h.gbm),h.gb,?_⟩
  . rw[hln]
    have hb2:Whole w2 g 58 #[.slice Ao fr.length co,.slice Al ls.length cl,.map (some bm)]:=h.box.grown hg (fun e=>hgn e.symm)
    exact hb2.put 1 _
  . rw[hln,zao]
    exact zS ho _ (fun e=>by rw[zm]at e;exact hgo e) _
  . intro b hb
    refine⟨fun e=>?_,(h.ap1 b hb).2⟩
    rcases hk' b e with e | e
    . exact(h.ap1 b hb).1 e
    . have:=(h.opn.lt b (by rw[zm];exact hb)).2;omega
  . intro b hb y hy e
    rcases hk' b hb with h1 | h1
    . exact h.ap2 b h1 y hy e
    . have:=((h.kid y hy).lt b (by rw[zm];exact e)).2;omega
  . rw[World.size_setCell];exact Nat.le_trans h.bw hg.size
end
end Go.Proofs.YtddgabjhligeeaaGreat.mk
