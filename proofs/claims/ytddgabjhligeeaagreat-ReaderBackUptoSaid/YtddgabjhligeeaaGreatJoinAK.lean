import Derived.Test.YtddgabjhligeeaaGreatJoinS
import Derived.Test.YtddgabjhligeeaaGreatJoinZ
import Derived.ChangeArms
set_option maxRecDepth 100000
namespace Go.Proofs.YtddgabjhligeeaaGreat.mk
open Go.ChangeShapes Go.WideShapes Go.RowKit Go.Deep Go.Joins
section
variable {H : Type} {enc : TypeId × Value → H} {W : World}
theorem zm5:Tryz.prog.cellsOf 93=4:=by kernel_rfl
end
section
variable {H : Type} {enc : TypeId × Value → H} {W : World}
theorem zm6:Tryz.prog.cellsOf 48=6:=by kernel_rfl
theorem zkI:Tryz.prog.cellsOf 46=1:=by kernel_rfl
theorem zkJ:Tryz.prog.cellsOf 27=1:=by kernel_rfl
theorem zfw{n:Nat}{c0 c1:Value}{y:DataW H × List MemPlace}(h:DataW.trod enc Tryz.prog W 0 (fun _=>true) true n 24 [c0,c1]=some y)(hbk:Rows.uptoBulk y.1<=1048576) :
    ∃ t:LT,c0=.string t.s/\c1=.slice t.A t.n t.c/\t.ok W W.heap.size/\t.s.size+3<=Rows.uptoBulk y.1:=by
  obtain⟨y0,y1,n',hx,_,h0,h1⟩:=trod_struct2 Tryz.underlying24 h
  have hD:y.1=.agg [y0.1,y1.1]:=congrArg Prod.fst hx
  rw[hD]at hbk ⊢
  simp only[zjf,zmI,List.drop_zero,List.drop_succ_cons,List.take_succ_cons,List.take_zero]at h0 h1
  obtain⟨t,rfl,rfl,hok,_,_,h4⟩:=ztg h0 h1 hbk
  exact⟨t,rfl,rfl,hok,by omega⟩
end
structure KT where
  kind:Int
  nm:LT
  A:Option Addr
  n:Nat
  c:Nat
  ats:List AT
  close:Bool
  tx:LT
def KT.ch(t:KT):KP:=⟨t.kind,t.nm.ch,t.ats.map AT.ch,t.tx.ch⟩
def zm7(t:KT):List Value:=[.int .i64 t.kind,.string t.nm.s,.slice t.nm.A t.nm.n t.nm.c,.slice t.A t.n t.c,.bool t.close,.string t.tx.s,.slice t.tx.A t.tx.n t.tx.c]
def zeM(ts:List KT):List Value:=ts.flatMap zm7
structure KT.inS (S:Nat->Prop) (w:World) (t:KT):Prop where
  nm:t.nm.inS S w
  tx:t.tx.inS S w
  att:LiesS S w t.A (zm t.ats)
  an:t.ats.length=t.n
  ac:t.A=none->t.c=0
  am:t.n<=1048576
  atts:∀ a∈t.ats,a.inS S w
theorem KT.inS.keep{S:Nat->Prop}{w w':World}{t:KT}(h:t.inS S w)(hk:Stays S w w'):t.inS S w':=
  ⟨h.nm.keep hk,h.tx.keep hk,h.att.keep hk,h.an,h.ac,h.am,fun a ha=>(h.atts a ha).keep hk⟩
theorem zm8(ts:List KT):∀ (k:Nat) (t:KT),ts[k]?=some t->∀ j,j < 7->(zeM ts)[k * 7+j]?=(zm7 t)[j]?:=by
  induction ts with
  | nil=>intro k t h;simp at h
  | cons b ts ih=>
    intro k t h j hj
    show(zm7 b++ zeM ts)[k * 7+j]?=_
    cases k with
    | zero=>
      simp at h
      subst h
      rw[List.getElem?_append_left (by show 0 * 7+j < 7;omega),Nat.zero_mul,Nat.zero_add]
    | succ k=>
      rw[List.getElem?_append_right (by show 7<=_;omega),show(k+1) * 7+j - (zm7 b).length=k * 7+j by show _ - 7=_;omega]
      exact ih k t (by simpa using h) j hj
theorem zpp(ad:Addr)(k j:Nat)(hj:0 < j):ad.add (k+j)=⟨(ad.add k).block,(ad.add k).off+j,none⟩:=by
  rw[<-zdO]
  generalize ad.add k=b
  unfold Addr.add
  rw[if_neg (by omega)]
theorem Lies.kt{w:World}{B:Nat}{A:Option Addr}{ts:List KT}(h:Lies w B A (zeM ts)){k:Nat}(hk:k < ts.length) :
    ∃ ad t,A=some ad/\ad.block < B/\w.cell? (ad.add (k * 7))=some (.int .i64 t.kind)/\w.cell? ⟨(ad.add (k * 7)).block,(ad.add (k * 7)).off+1,none⟩=some (.string t.nm.s)/\w.cell? ⟨(ad.add (k * 7)).block,(ad.add (k * 7)).off+2,none⟩=some (.slice t.nm.A t.nm.n t.nm.c)/\w.cell? ⟨(ad.add (k * 7)).block,(ad.add (k * 7)).off+3,none⟩=some (.slice t.A t.n t.c)/\w.cell? ⟨(ad.add (k * 7)).block,(ad.add (k * 7)).off+4,none⟩=some (.bool t.close)/\w.cell? ⟨(ad.add (k * 7)).block,(ad.add (k * 7)).off+5,none⟩=some (.string t.tx.s)/\w.cell? ⟨(ad.add (k * 7)).block,(ad.add (k * 7)).off+6,none⟩=some (.slice t.tx.A t.tx.n t.tx.c)/\Hid (ts[k]?=some t):=by
  have ht:ts[k]?=some ts[k]:=List.getElem?_eq_getElem hk
  generalize ts[k]=t at ht
  have key:∀ j u,j < 7->(zm7 t)[j]?=some u->∃ ad,A=some ad/\ad.block < B/\w.cell? (ad.add (k * 7+j))=some u:=fun j u hj hu=>h _ _ ((zm8 ts k t ht j hj).trans hu)
  obtain⟨ad,e,hb,h0⟩:=key 0 _ (by omega) rfl
  subst e
  have key2:∀ j u,0 < j->j < 7->(zm7 t)[j]?=some u->w.cell? ⟨(ad.add (k * 7)).block,(ad.add (k * 7)).off+j,none⟩=some u:=fun j u h0 hj hu=>by
    obtain⟨ad',e,_,hc⟩:=key j u hj hu
    injection e with e
    subst e
    rw[<-zpp _ _ _ h0]
    exact hc
  exact⟨ad,t,rfl,hb,h0,key2 1 _ (by omega) (by omega) rfl,key2 2 _ (by omega) (by omega) rfl,key2 3 _ (by omega) (by omega) rfl,key2 4 _ (by omega) (by omega) rfl,key2 5 _ (by omega) (by omega) rfl,key2 6 _ (by omega) (by omega) rfl,ht⟩
section
variable {H : Type} {enc : TypeId × Value → H} {W : World}
end
end Go.Proofs.YtddgabjhligeeaaGreat.mk
