import Derived.Test.YtddgabjhligeeaaGreatJnX
import Derived.Test.YtddgabjhligeeaaGreatJnAE
import Derived.ChangeArms
set_option maxRecDepth 100000
namespace Go.Proofs.YtddgabjhligeeaaGreat.mk
open Go.ChangeShapes Go.WideShapes Go.RowKit Go.Deep Go.Joins
section
variable {H : Type} {enc : TypeId × Value → H} {W : World}
theorem zjN:Tryz.prog.cellsOf 93=4:=by kernel_rfl
theorem zly{n:Nat}{c0 c1:Value}{y:DataW H × List MemPlace}(h:DataW.trod enc Tryz.prog W 0 (fun _=>true) true n 24 [c0,c1]=some y)(hbk:Rows.uptoBulk y.1<=1048576) :
    ∃ t:LT,c0=.string t.s/\c1=.slice t.A t.n t.c/\t.ok W W.heap.size:=by
  obtain⟨y0,y1,n',hx,_,h0,h1⟩:=trod_struct2 Tryz.underlying24 h
  have hD:y.1=.agg [y0.1,y1.1]:=congrArg Prod.fst hx
  rw[hD]at hbk
  simp only[zdB,ze2,List.drop_zero,List.drop_succ_cons,List.take_succ_cons,List.take_zero]at h0 h1
  obtain⟨t,rfl,rfl,hok,_,_,_⟩:=zk2 h0 h1 hbk
  exact⟨t,rfl,rfl,hok⟩
theorem znt{n:Nat}{c0 c1 c2 c3:Value}{y:DataW H × List MemPlace}(h:DataW.trod enc Tryz.prog W 0 (fun _=>true) true n 93 [c0,c1,c2,c3]=some y)(hbk:Rows.uptoBulk y.1<=1048576) :
    ∃ t:AT,c0=.string t.nm.s/\c1=.slice t.nm.A t.nm.n t.nm.c/\c2=.string t.vl.s/\c3=.slice t.vl.A t.vl.n t.vl.c/\t.ok W W.heap.size:=by
  obtain⟨y0,y1,n',hx,_,h0,h1⟩:=trod_struct2 Tryz.underlying93 h
  have hD:y.1=.agg [y0.1,y1.1]:=congrArg Prod.fst hx
  rw[hD]at hbk
  simp only[Rows.uptoBulk,Rows.uptoBulkAll]at hbk
  simp only[zgI,List.drop_zero,List.drop_succ_cons,List.take_succ_cons,List.take_zero]at h0 h1
  obtain⟨t0,rfl,rfl,hok0⟩:=zly h0 (by omega)
  obtain⟨t1,rfl,rfl,hok1⟩:=zly h1 (by omega)
  exact⟨⟨t0,t1⟩,rfl,rfl,rfl,rfl,hok0,hok1⟩
theorem zlz{fuel:Nat}{v:Value}{x:DataW H × List MemPlace}(h:DataW.trod enc Tryz.prog W 0 (fun _=>true) true fuel 46 [v]=some x)(hbk:Rows.uptoBulk x.1<=1048576) :
    ∃ (L:Option Addr) (m c:Nat) (ts:List AT),v=.slice L m c/\Lies W W.heap.size L (zq ts)/\ts.length=m/\(L=none->c=0)/\m<=c/\AllOk W W.heap.size ts/\m+1<=Rows.uptoBulk x.1:=by
  rcases open_slice Tryz.underlying46 h with ⟨hv,rfl⟩ | ⟨a,len,cap,m,n,D,Pl,hv,hb,hlc,hcm,hm,rfl,hel⟩
  . simp only[List.cons.injEq,and_true]at hv
    subst hv
    exact⟨none,0,0,[],rfl,Lies.empty _ _ _,rfl,fun _=>rfl,Nat.le_refl _,(fun t ht=>by cases ht),by simp [Rows.uptoBulk]⟩
  . simp only[List.cons.injEq,and_true]at hv
    subst hv
    simp only[if_true]at hm
    subst hm
    have hpart:∀ i,i < len->Rows.uptoBulk (D i)<=1048576:=by
      intro i hi
      have hbk':=hbk
      simp only[Rows.uptoBulk]at hbk'
      rw[zdM]at hbk'
      have hmem:Rows.uptoBulk (D i)∈((List.range len).map D).map Rows.uptoBulk:=by
        simp only[List.mem_map,List.mem_range]
        exact⟨D i,⟨i,hi,rfl⟩,rfl⟩
      have:=zn3 hmem
      omega
    obtain⟨ts,htl,hts⟩:=zhN (fun i (t:AT)=>W.cell? (a.add (i * 4))=some (.string t.nm.s)/\W.cell? (a.add (i * 4+1))=some (.slice t.nm.A t.nm.n t.nm.c)/\W.cell? (a.add (i * 4+2))=some (.string t.vl.s)/\W.cell? (a.add (i * 4+3))=some (.slice t.vl.A t.vl.n t.vl.c)/\t.ok W W.heap.size) len (fun i hi=>by
      obtain⟨cs',hc,ht⟩:=hel i (by omega)
      rw[zjN]at hc
      obtain⟨_,hcl,hca⟩:=World.cells?_some hc
      match cs',hcl with
      | [c0,c1,c2,c3],_=>
        obtain⟨t,rfl,rfl,rfl,rfl,hok⟩:=znt ht (hpart i hi)
        have hl0:=hca 0 (by omega)
        have hl1:=hca 1 (by omega)
        have hl2:=hca 2 (by omega)
        have hl3:=hca 3 (by omega)
        rw[zcN]at hl0 hl1 hl2 hl3
        exact⟨t,by simpa using hl0,by simpa using hl1,by simpa using hl2,by simpa using hl3,hok⟩)
    refine⟨some a,len,m,ts,rfl,?_,htl,by simp,hlc,?_,?_⟩
    . intro j u hu
      have hj:j < ts.length * 4:=by
        have:=(List.getElem?_eq_some_iff.1 hu).1
        rwa [zcC]at this
      have hk:j / 4 < ts.length:=by omega
      obtain⟨h0,h1,h2,h3,_⟩:=hts (j / 4) (ts[j / 4]) (List.getElem?_eq_getElem hk)
      refine⟨a,rfl,by have:=World.block_lt_of_cell? W _ h0;simpa [zU]using this,?_⟩
      have hat:=fun i hi=>zbe ts (j / 4) (ts[j / 4]) (List.getElem?_eq_getElem hk) i hi
      have hq:j=j / 4 * 4+j % 4:=by omega
      have h4:j % 4=0\/j % 4=1\/j % 4=2\/j % 4=3:=by omega
      rcases h4 with hm | hm | hm | hm
      . have e:j=j / 4 * 4+0:=by omega
        rw[e,hat 0 (by omega)]at hu
        rw[e,<-hu];exact h0
      . have e:j=j / 4 * 4+1:=by omega
        rw[e,hat 1 (by omega)]at hu
        rw[e,<-hu];exact h1
      . have e:j=j / 4 * 4+2:=by omega
        rw[e,hat 2 (by omega)]at hu
        rw[e,<-hu];exact h2
      . have e:j=j / 4 * 4+3:=by omega
        rw[e,hat 3 (by omega)]at hu
        rw[e,<-hu];exact h3
    . intro t ht
      obtain⟨i,hi,rfl⟩:=List.getElem_of_mem ht
      exact(hts i _ (List.getElem?_eq_getElem hi)).2.2.2.2
    . have h1:=zdY ((List.range len).map D)
      simp only[List.length_map,List.length_range]at h1
      simp only[Rows.uptoBulk]
      omega
end
section
variable {H : Type} {enc : TypeId × Value → H} {W : World}
theorem zjO:Tryz.prog.cellsOf 48=6:=by kernel_rfl
theorem zhV:Tryz.prog.cellsOf 46=1:=by kernel_rfl
theorem zhW:Tryz.prog.cellsOf 27=1:=by kernel_rfl
theorem ziY{n:Nat}{c0 c1:Value}{y:DataW H × List MemPlace}(h:DataW.trod enc Tryz.prog W 0 (fun _=>true) true n 24 [c0,c1]=some y)(hbk:Rows.uptoBulk y.1<=1048576) :
    ∃ t:LT,c0=.string t.s/\c1=.slice t.A t.n t.c/\t.ok W W.heap.size/\t.s.size+3<=Rows.uptoBulk y.1:=by
  obtain⟨y0,y1,n',hx,_,h0,h1⟩:=trod_struct2 Tryz.underlying24 h
  have hD:y.1=.agg [y0.1,y1.1]:=congrArg Prod.fst hx
  rw[hD]at hbk ⊢
  simp only[zdB,ze2,List.drop_zero,List.drop_succ_cons,List.take_succ_cons,List.take_zero]at h0 h1
  obtain⟨t,rfl,rfl,hok,_,_,h4⟩:=zk2 h0 h1 hbk
  exact⟨t,rfl,rfl,hok,by omega⟩
def zlG(W:World)(v:Value)(b:Nat):Prop:=
  ∃ (L:Option Addr) (m c:Nat) (ts:List TT),v=.slice L m c/\LiesS (fun b=>b < W.heap.size) W L (ze ts)/\ts.length=m/\(L=none->c=0)/\m<=c/\AllS (fun b=>b < W.heap.size) W ts/\bkL (chL ts)+1<=b
theorem zlH{n:Nat}{c0 c1 c2 c3 c4 c5:Value}{y:DataW H × List MemPlace}(h:DataW.trod enc Tryz.prog W 0 (fun _=>true) true n 48 [c0,c1,c2,c3,c4,c5]=some y)(hbk:Rows.uptoBulk y.1<=1048576)
    (hin:∀ (fuel:Nat) (v:Value) (x:DataW H × List MemPlace),DataW.trod enc Tryz.prog W 0 (fun _=>true) true fuel 27 [v]=some x->Rows.uptoBulk x.1 < Rows.uptoBulk y.1->zlG W v (Rows.uptoBulk x.1)) :
    ∃ t:TT,c0=.string t.tag.s/\c1=.slice t.tag.A t.tag.n t.tag.c/\c2=.slice t.A t.n t.c/\c3=.slice t.K t.kn t.kc/\c4=.string t.text.s/\c5=.slice t.text.A t.text.n t.text.c/\
      t.inS (fun b=>b < W.heap.size) W/\AllS (fun b=>b < W.heap.size) W t.kids/\t.ch.bk<=Rows.uptoBulk y.1:=by
  obtain⟨y0,y1,y2,y3,n',hx,_,h0,h1,h2,h3⟩:=trod_struct4 Tryz.underlying48 h
  have hD:y.1=.agg [y0.1,y1.1,y2.1,y3.1]:=congrArg Prod.fst hx
  rw[hD]at hbk hin ⊢
  simp only[Rows.uptoBulk,Rows.uptoBulkAll]at hbk hin ⊢
  simp only[zgI,zhV,zhW,List.drop_zero,List.drop_succ_cons,List.take_succ_cons,List.take_zero]at h0 h1 h2 h3
  obtain⟨t0,rfl,rfl,hok0,hs0⟩:=ziY h0 (by omega)
  obtain⟨A,m,c,ats,rfl,hl,hm,hA,hmc,hall,hb1⟩:=zlz h1 (by omega)
  obtain⟨K,kn,kc,ks,rfl,hkl,hkm,hK,hkc,hkall,hkb⟩:=hin _ _ _ h2 (by omega)
  obtain⟨t3,rfl,rfl,hok3,hs3⟩:=ziY h3 (by omega)
  have hlen:=zau (chL ks)
  rw[zv]at hlen
  refine⟨⟨t0,A,m,c,ats,K,kn,kc,ks,t3⟩,rfl,rfl,rfl,rfl,rfl,rfl,⟨hok0.inS (Nat.le_refl _),hok3.inS (Nat.le_refl _),hl.inS (Nat.le_refl _),hm,hA,by show m<=_;omega,fun a ha=>(hall a ha).inS (Nat.le_refl _),hkl,hkm,hK,by show kn<=_;omega⟩,hkall,?_⟩
  rw[PT.bk_eq,TT.ch_tag,TT.ch_attrs,TT.ch_kids,TT.ch_text,LT.ch_length,LT.ch_length,List.length_map]
  show t0.s.size+ats.length+t3.s.size+1+bkL (chL ks)<=_
  omega
theorem zfR(N:Nat)(hN:N<=1048576):∀ (fuel:Nat) (v:Value) (x:DataW H × List MemPlace),DataW.trod enc Tryz.prog W 0 (fun _=>true) true fuel 27 [v]=some x->Rows.uptoBulk x.1<=N->zlG W v (Rows.uptoBulk x.1):=by
  induction N with
  | zero=>intro fuel v x _ hb;have:=zii x.1;omega
  | succ N ih=>
    intro fuel v x h hbk
    rcases open_slice Tryz.underlying27 h with ⟨hv,rfl⟩ | ⟨a,len,cap,m,n,D,Pl,hv,hb,hlc,hcm,hm,rfl,hel⟩
    . simp only[List.cons.injEq,and_true]at hv
      subst hv
      exact⟨none,0,0,[],rfl,LiesS.nil _ _ _,rfl,(fun _=>rfl),Nat.le_refl _,AllS.nil _ _,by simp [Rows.uptoBulk,chL,bkL]⟩
    . simp only[List.cons.injEq,and_true]at hv
      subst hv
      simp only[if_true]at hm
      subst hm
      have hall:Rows.uptoBulkAll ((List.range len).map D)+1<=Rows.uptoBulk (DataW.slice ((List.range len).map D) ((List.range (m - len)).map fun j=>D (len+j))):=by
        simp only[Rows.uptoBulk];omega
      have hpart:∀ i,i < len->Rows.uptoBulk (D i)<=N:=by
        intro i hi
        have hbk':Rows.uptoBulk (DataW.slice ((List.range len).map D) ((List.range (m - len)).map fun j=>D (len+j)))<=N+1:=hbk
        rw[zdM]at hall
        have hmem:Rows.uptoBulk (D i)∈((List.range len).map D).map Rows.uptoBulk:=by
          simp only[List.mem_map,List.mem_range]
          exact⟨D i,⟨i,hi,rfl⟩,rfl⟩
        have:=zn3 hmem
        omega
      obtain⟨ts,htl,hts⟩:=zhN (fun i (t:TT)=>(W.cell? (a.add (i * 6))=some (.string t.tag.s)/\W.cell? (a.add (i * 6+1))=some (.slice t.tag.A t.tag.n t.tag.c)/\W.cell? (a.add (i * 6+2))=some (.slice t.A t.n t.c)/\
          W.cell? (a.add (i * 6+3))=some (.slice t.K t.kn t.kc)/\W.cell? (a.add (i * 6+4))=some (.string t.text.s)/\W.cell? (a.add (i * 6+5))=some (.slice t.text.A t.text.n t.text.c))/\
          t.inS (fun b=>b < W.heap.size) W/\AllS (fun b=>b < W.heap.size) W t.kids/\t.ch.bk<=Rows.uptoBulk (D i)) len (fun i hi=>by
        obtain⟨cs',hc,ht⟩:=hel i (by omega)
        rw[zjO]at hc
        obtain⟨_,hcl,hca⟩:=World.cells?_some hc
        match cs',hcl with
        | [c0,c1,c2,c3,c4,c5],_=>
          have hp:=hpart i hi
          obtain⟨t,rfl,rfl,rfl,rfl,rfl,rfl,h1,h2,h3⟩:=zlH ht (by show Rows.uptoBulk (D i)<=_;omega) (fun fuel v x hx hlt=>ih (by omega) fuel v x hx (by have h9:Rows.uptoBulk x.1 < Rows.uptoBulk (D i):=hlt;omega))
          have hl0:=hca 0 (by omega)
          have hl1:=hca 1 (by omega)
          have hl2:=hca 2 (by omega)
          have hl3:=hca 3 (by omega)
          have hl4:=hca 4 (by omega)
          have hl5:=hca 5 (by omega)
          rw[zcN]at hl0 hl1 hl2 hl3 hl4 hl5
          exact⟨t,⟨by simpa using hl0,by simpa using hl1,by simpa using hl2,by simpa using hl3,by simpa using hl4,by simpa using hl5⟩,h1,h2,h3⟩)
      have hsum:∀ k,k<=len->bkL (chL (ts.take k))<=Rows.uptoBulkAll ((List.range k).map D):=by
        intro k
        induction k with
        | zero=>intro _;simp [chL,bkL]
        | succ k ihk=>
          intro hk
          have h1:=ihk (by omega)
          have hkl:k < ts.length:=by omega
          have h2:=(hts k ts[k] (List.getElem?_eq_getElem hkl)).2.2.2
          rw[zw (List.getElem?_eq_getElem hkl),zn,zN,List.range_succ,List.map_append,zdM,List.map_append,List.sum_append,<-zdM]
          have h3:bkL (chL [ts[k]])=ts[k].ch.bk:=by rw[chL,chL,zaT]
          rw[h3]
          simp only[List.map_cons,List.map_nil,List.sum_cons,List.sum_nil]
          omega
      refine⟨some a,len,m,ts,rfl,?_,htl,by simp,hlc,?_,?_⟩
      . intro j u hu
        have hj:j < ts.length * 6:=by
          have:=(List.getElem?_eq_some_iff.1 hu).1
          rwa [zac]at this
        have hk:j / 6 < ts.length:=by omega
        obtain⟨⟨h0,h1,h2,h3,h4,h5⟩,_⟩:=hts (j / 6) (ts[j / 6]) (List.getElem?_eq_getElem hk)
        have hlt:a.block < W.heap.size:=by have:=World.block_lt_of_cell? W _ h0;simpa [zU]using this
        refine⟨a,rfl,hlt,hlt,?_⟩
        have hat:=fun i hi=>zav ts (j / 6) (ts[j / 6]) (List.getElem?_eq_getElem hk) i hi
        have h6:j % 6=0\/j % 6=1\/j % 6=2\/j % 6=3\/j % 6=4\/j % 6=5:=by omega
        have hgo:∀ r,r < 6->j % 6=r->W.cell? (a.add (j / 6 * 6+r))=(zj (ts[j / 6]))[r]?->W.cell? (a.add j)=some u:=by
          intro r hr hm hc
          have e:j=j / 6 * 6+r:=by omega
          rw[e,hat r hr]at hu
          rw[e,hc,hu]
        rcases h6 with hm | hm | hm | hm | hm | hm
        . exact hgo 0 (by omega) hm h0
        . exact hgo 1 (by omega) hm h1
        . exact hgo 2 (by omega) hm h2
        . exact hgo 3 (by omega) hm h3
        . exact hgo 4 (by omega) hm h4
        . exact hgo 5 (by omega) hm h5
      . intro y hy
        obtain⟨t,ht,hy⟩:=zkA hy
        obtain⟨i,hi,rfl⟩:=List.getElem_of_mem ht
        obtain⟨_,h1,h2,_⟩:=hts i _ (List.getElem?_eq_getElem hi)
        rw[TT.nodes_eq]at hy
        rcases List.mem_cons.1 hy with rfl | hy
        . exact h1
        . exact h2 _ hy
      . have h1:=hsum len (Nat.le_refl _)
        rw[List.take_of_length_le (by omega)]at h1
        show _<=Rows.uptoBulk (DataW.slice ((List.range len).map D) ((List.range (m - len)).map fun j=>D (len+j)))
        omega
theorem zjP{fuel:Nat}{v:Value}{x:DataW H × List MemPlace}(h:DataW.trod enc Tryz.prog W 0 (fun _=>true) true fuel 27 [v]=some x)(hbk:Rows.uptoBulk x.1<=1048576) :
    ∃ (L:Option Addr) (m c:Nat) (ts:List TT),v=.slice L m c/\LiesS (fun b=>b < W.heap.size) W L (ze ts)/\ts.length=m/\(L=none->c=0)/\m<=c/\AllS (fun b=>b < W.heap.size) W ts/\bkL (chL ts)+1<=Rows.uptoBulk x.1:=zfR 1048576 (Nat.le_refl _) fuel v x h hbk
end
structure KT where
  kind:Int
  nm:LT
  A:Option Addr
  n:Nat
  c:Nat
  ats:List AT
  close:Bool
  tx:LT
def KT.ch(t:KT):KP:=⟨t.kind,t.nm.ch,t.ats.map AT.ch,t.tx.ch⟩
def zjQ(t:KT):List Value:=[.int .i64 t.kind,.string t.nm.s,.slice t.nm.A t.nm.n t.nm.c,.slice t.A t.n t.c,.bool t.close,.string t.tx.s,.slice t.tx.A t.tx.n t.tx.c]
def zdn(ts:List KT):List Value:=ts.flatMap zjQ
structure KT.inS (S:Nat->Prop) (w:World) (t:KT):Prop where
  nm:t.nm.inS S w
  tx:t.tx.inS S w
  att:LiesS S w t.A (zq t.ats)
  an:t.ats.length=t.n
  ac:t.A=none->t.c=0
  am:t.n<=1048576
  atts:∀ a∈t.ats,a.inS S w
theorem KT.inS.keep{S:Nat->Prop}{w w':World}{t:KT}(h:t.inS S w)(hk:Stays S w w'):t.inS S w':=
  ⟨h.nm.keep hk,h.tx.keep hk,h.att.keep hk,h.an,h.ac,h.am,fun a ha=>(h.atts a ha).keep hk⟩
theorem zjR(ts:List KT):∀ (k:Nat) (t:KT),ts[k]?=some t->∀ j,j < 7->(zdn ts)[k * 7+j]?=(zjQ t)[j]?:=by
  induction ts with
  | nil=>intro k t h;simp at h
  | cons b ts ih=>
    intro k t h j hj
    show(zjQ b++ zdn ts)[k * 7+j]?=_
    cases k with
    | zero=>
      simp at h
      subst h
      rw[List.getElem?_append_left (by show 0 * 7+j < 7;omega),Nat.zero_mul,Nat.zero_add]
    | succ k=>
      rw[List.getElem?_append_right (by show 7<=_;omega),show(k+1) * 7+j - (zjQ b).length=k * 7+j by show _ - 7=_;omega]
      exact ih k t (by simpa using h) j hj
theorem zlI(ad:Addr)(k j:Nat)(hj:0 < j):ad.add (k+j)=⟨(ad.add k).block,(ad.add k).off+j,none⟩:=by
  rw[<-zcN]
  generalize ad.add k=b
  unfold Addr.add
  rw[if_neg (by omega)]
theorem Lies.kt{w:World}{B:Nat}{A:Option Addr}{ts:List KT}(h:Lies w B A (zdn ts)){k:Nat}(hk:k < ts.length) :
    ∃ ad t,A=some ad/\ad.block < B/\w.cell? (ad.add (k * 7))=some (.int .i64 t.kind)/\w.cell? ⟨(ad.add (k * 7)).block,(ad.add (k * 7)).off+1,none⟩=some (.string t.nm.s)/\w.cell? ⟨(ad.add (k * 7)).block,(ad.add (k * 7)).off+2,none⟩=some (.slice t.nm.A t.nm.n t.nm.c)/\w.cell? ⟨(ad.add (k * 7)).block,(ad.add (k * 7)).off+3,none⟩=some (.slice t.A t.n t.c)/\w.cell? ⟨(ad.add (k * 7)).block,(ad.add (k * 7)).off+4,none⟩=some (.bool t.close)/\w.cell? ⟨(ad.add (k * 7)).block,(ad.add (k * 7)).off+5,none⟩=some (.string t.tx.s)/\w.cell? ⟨(ad.add (k * 7)).block,(ad.add (k * 7)).off+6,none⟩=some (.slice t.tx.A t.tx.n t.tx.c)/\Hid (ts[k]?=some t):=by
  have ht:ts[k]?=some ts[k]:=List.getElem?_eq_getElem hk
  generalize ts[k]=t at ht
  have key:∀ j u,j < 7->(zjQ t)[j]?=some u->∃ ad,A=some ad/\ad.block < B/\w.cell? (ad.add (k * 7+j))=some u:=fun j u hj hu=>h _ _ ((zjR ts k t ht j hj).trans hu)
  obtain⟨ad,e,hb,h0⟩:=key 0 _ (by omega) rfl
  subst e
  have key2:∀ j u,0 < j->j < 7->(zjQ t)[j]?=some u->w.cell? ⟨(ad.add (k * 7)).block,(ad.add (k * 7)).off+j,none⟩=some u:=fun j u h0 hj hu=>by
    obtain⟨ad',e,_,hc⟩:=key j u hj hu
    injection e with e
    subst e
    rw[<-zlI _ _ _ h0]
    exact hc
  exact⟨ad,t,rfl,hb,h0,key2 1 _ (by omega) (by omega) rfl,key2 2 _ (by omega) (by omega) rfl,key2 3 _ (by omega) (by omega) rfl,key2 4 _ (by omega) (by omega) rfl,key2 5 _ (by omega) (by omega) rfl,key2 6 _ (by omega) (by omega) rfl,ht⟩
section
variable {H : Type} {enc : TypeId × Value → H} {W : World}
end
end Go.Proofs.YtddgabjhligeeaaGreat.mk
