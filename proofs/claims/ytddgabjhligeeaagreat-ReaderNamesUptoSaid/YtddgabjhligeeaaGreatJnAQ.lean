import Derived.OwnWalkIn
import Derived.TacticsInMore
import Derived.LoopNIn
import Derived.LoopIn
import Derived.Test.YtddgabjhligeeaaGreatJnAG
import Derived.Test.YtddgabjhligeeaaGreatJnY
set_option maxHeartbeats 4000000
set_option maxRecDepth 100000
namespace Go.Proofs.YtddgabjhligeeaaGreat.mk
open Go.RowKit
theorem zbE(f:FuncId):Fence.wide.fn f=True:=rfl
theorem zap:Fence.wide.depth=none:=rfl
attribute [local go_sem] Oper.semAt_some zbE zap
def ShT(S:Nat->Prop)(x:TT)(G:Nat->Prop)(W:World):Prop:=x.inS (fun b=>S b\/G b) W/\LiesS S W x.K (ze x.kids)/\AllS S W x.kids
theorem ShT.keep{S G:Nat->Prop}{x:TT}{W W':World}(h:ShT S x G W)(hm:Stays (fun b=>S b\/G b) W W'):ShT S x G W':=
  have hs:Stays S W W':=⟨hm.1,fun b hb hl=>hm.2 b (.inl hb) hl⟩
  ⟨h.1.keep hm,h.2.1.keep hs,h.2.2.keep hs⟩
theorem ShT.moved{S G:Nat->Prop}{x:TT}{W W':World}(h:ShT S x G W)(hm:Moved (fun b=>¬ (S b\/G b)) W W'):ShT S x G W':=h.keep (hm.stays fun _ _ hi h=>h hi)
def encT(x:TT):Array Value:=#[.agg #[.string x.tag.s,.slice x.tag.A x.tag.n x.tag.c,.slice x.A x.n x.c,.slice x.K x.kn x.kc,.string x.text.s,.slice x.text.A x.text.n x.text.c]]
def encF(x:TT × Nat):Array Value:=#[.agg #[.string x.1.tag.s,.slice x.1.tag.A x.1.tag.n x.1.tag.c,.slice x.1.A x.1.n x.1.c,.slice x.1.K x.1.kn x.1.kc,.string x.1.text.s,.slice x.1.text.A x.1.text.n x.1.text.c],.int .i64 (x.2:Int)]
def zcX(x:TT × Nat):Found:=(x.1.tag.ch,x.1.text.ch,x.2)
def zpP(F:Nat)(caps:Array Value)(n1:Nat)(S:Nat->Prop)(okp:List (TT × Nat)->Prop)(J:List (TT × Nat)->(Nat->Prop)->World->Prop):Prop:=
  ∀ (pre:List (TT × Nat)) (K G:Nat->Prop) (x:TT × Nat) (W:World),J pre K W->ShT S x.1 G W->okp (pre++ [x])->n1<=W.heap.size->(∀ b,G b->n1<=b/\b < W.heap.size/\¬ K b)->
    Calls Tryz.prog F (encF x++ caps) W (zni J pre x K G W)
def zlM(F l bw bY:Nat)(p:TT->Bool)(J:List (TT × Nat)->(Nat->Prop)->World->Prop)(pre:List (TT × Nat))(K:Nat->Prop)(W:World):Prop:=
  J (pre.filter fun y=>p y.1) K W/\¬ K bw/\¬ K bY/\W.cell? ⟨bw,0,none⟩=some (.func (.func F) #[] #[])/\W.cell? ⟨bY,0,none⟩=some (.func (.yield l) #[] #[])
theorem znw{F l n1 bw bY:Nat}{p:TT->Bool}{S:Nat->Prop}{okp okq:List (TT × Nat)->Prop}{J:List (TT × Nat)->(Nat->Prop)->World->Prop}(hW:Wants F p)(hT:Takes Tryz.prog encF l n1 (fun x=>ShT S x.1) okp J)(hH:Held n1 J)
    (hS:∀ b,S b->b < n1) (hbw:bw < n1) (hby:bY < n1) (hok:∀ pre x,okq (pre++ [x])->p x.1=true->okp ((pre.filter fun y=>p y.1)++ [x])) :
    zpP 79 #[.pointer (some ⟨bw,0,none⟩),.pointer (some ⟨bY,0,none⟩)] n1 S okq (zlM F l bw bY p J):=by
  rintro pre K G ⟨x,k⟩ W ⟨hJ,hkw,hky,cw,cy⟩ hsh hokq hn1 hG
  have HJ:=Lib.hid hJ
  have HSH:=Lib.hid hsh
  have HOK:=Lib.hid (hok pre (x,k) hokq)
  have HG:=Lib.hid hG
  have HH:=Lib.hid hH
  have HT:=Lib.hid hT
  have HS:=Lib.hid hS
  have hlw:=World.block_lt_of_cell? W _ cw
  have hly:=World.block_lt_of_cell? W _ cy
  have HKK:Hid (¬ K bw/\¬ K bY):=⟨hkw,hky⟩
  clear hJ hsh hokq hok hG hH hT hS hkw hky
  have hcap:encF (x,k)++ #[.pointer (some ⟨bw,0,none⟩),.pointer (some ⟨bY,0,none⟩)]=#[.agg #[.string x.tag.s,.slice x.tag.A x.tag.n x.tag.c,.slice x.A x.n x.c,.slice x.K x.kn x.kc,.string x.text.s,.slice x.text.A x.text.n x.text.c],.int .i64 (k:Int),.pointer (some ⟨bw,0,none⟩),.pointer (some ⟨bY,0,none⟩)]:=rfl
  rw[hcap]
  clear hcap
  generalize hw1:W.alloc (.cells #[.string x.tag.s,.slice x.tag.A x.tag.n x.tag.c,.slice x.A x.n x.c,.slice x.K x.kn x.kc,.string x.text.s,.slice x.text.A x.text.n x.text.c] 48)=W1
  have y1:Whole W1 W.heap.size 48 #[.string x.tag.s,.slice x.tag.A x.tag.n x.tag.c,.slice x.A x.n x.c,.slice x.K x.kn x.kc,.string x.text.s,.slice x.text.A x.text.n x.text.c]:=by rw[<-hw1];exact Whole.made _ _ _
  have hb1:Below W.heap.size W W1:=by rw[<-hw1];exact(Below.refl _ _).alloc (Nat.le_refl _) _
  have hz1:W.heap.size < W1.heap.size:=y1.lt
  have HKEEP:Hid (∀ W2,Below W1.heap.size W1 W2->W2.cell? ⟨bw,0,none⟩=some (.func (.func F) #[] #[])/\W2.cell? ⟨bY,0,none⟩=some (.func (.yield l) #[] #[])/\
      W2.cell? ⟨W.heap.size,0,none⟩=some (.string x.tag.s)/\W2.cell? ⟨W.heap.size,1,none⟩=some (.slice x.tag.A x.tag.n x.tag.c)/\W2.cell? ⟨W.heap.size,2,none⟩=some (.slice x.A x.n x.c)/\W2.cell? ⟨W.heap.size,3,none⟩=some (.slice x.K x.kn x.kc)/\W2.cell? ⟨W.heap.size,4,none⟩=some (.string x.text.s)/\W2.cell? ⟨W.heap.size,5,none⟩=some (.slice x.text.A x.text.n x.text.c)):=by
    intro W2 h
    have y2:=y1.below h y1.lt
    have hcw:(⟨bw,0,none⟩:Addr).block < W.heap.size:=hlw
    have hcy:(⟨bY,0,none⟩:Addr).block < W.heap.size:=hly
    exact⟨(h.cell (Nat.lt_trans hcw hz1)).trans ((hb1.cell hcw).trans cw),(h.cell (Nat.lt_trans hcy hz1)).trans ((hb1.cell hcy).trans cy),y2.at_ 0,y2.at_ 1,y2.at_ 2,y2.at_ 3,y2.at_ 4,y2.at_ 5⟩
  have hd1:=HKEEP.out W1 (Below.refl _ _)
  obtain⟨a0,a1,a2,a3,a4,a5,a6,a7⟩:=hd1
  have HB1:=Lib.hid hb1
  clear cw cy hlw hly hb1 y1
  refine callsIn_wide.1 (callsIn_of_wp (n:=1) Tryz.func79 rfl trivial ?_ rfl)
  simp only[Tryz.ntmps79,List.size_toArray,List.length_cons,List.length_nil,Nat.reduceAdd,Nat.reduceSub,Array.replicate_succ,Array.replicate_zero,List.push_toArray,List.append_toArray,List.nil_append,List.cons_append]
  gi_wp2_with fail
  rw[hW.enters,Oper.uponIn_enter]
  refine⟨(fun hd=>by cases hd),callsIn_wide.2 ((hW.tells x W1).mono ?_)⟩
  rintro e W2 ⟨rfl,hb2⟩
  clear a0 a1 a2 a3 a4 a5 a6 a7
  obtain⟨a0,a1,a2,a3,a4,a5,a6,a7⟩:=HKEEP.out W2 hb2
  have HB2:Hid (Below W.heap.size W W2):=zf HB1.out (Nat.le_refl _) hb2
  have hz2:=hb2.size
  have HJ2:Hid (J (pre.filter fun y=>p y.1) K W2):=HH.out _ _ _ _ HJ.out hn1 (Moved.of_below HB2.out)
  have HSH2:Hid (ShT S x G W2):=HSH.out.moved (Moved.of_below HB2.out)
  clear hb2
  cases hp:p x with
  | true=>
    have hto:=HT.out (pre.filter fun y=>p y.1) K G (x,k) W2 HJ2.out HSH2.out (HOK.out hp) (by omega) (fun b hb=>⟨(HG.out b hb).1,by have:=(HG.out b hb).2.1;omega,(HG.out b hb).2.2⟩)
    obtain⟨fn,tmps,assign,body,hy,hR⟩:=hto
    dsimp only[encF]at hy
    have HP:=Lib.hid hp
    clear hp
    gi_wp2_with fail
    refine hR.mono ?_
    rintro e W3 ⟨rfl,K',hj,hg,hm⟩
    have hzW:W.heap.size<=W2.heap.size:=HB2.out.size
    have hmv:Moved (fun b=>K b\/G b) W W3:=(Moved.of_below HB2.out).join hm fun _ _ h=>h
    have hn:∀ b,b < n1->¬ K b->¬ K' b:=fun b hb hk h=>by
      rcases hg b h with h | h | h
      . exact hk h
      . have:=(HG.out b h).1;omega
      . omega
    have HFIN:Hid (zni (zlM F l bw bY p J) pre (x,k) K G W (.returned (.bool true)) W3):=by
      refine⟨rfl,K',⟨?_,hn _ hbw HKK.out.1,hn _ hby HKK.out.2,?_,?_⟩,?_,hmv⟩
      . rw[List.filter_append,List.filter_cons_of_pos (by exact HP.out)]
        exact hj
      . exact(hm.cell (p:=⟨bw,0,none⟩) (by show bw < _;omega) (fun h=>h.elim HKK.out.1 fun h=>by have h3:n1<=bw:=(HG.out bw h).1;omega)).trans a0
      . exact(hm.cell (p:=⟨bY,0,none⟩) (by show bY < _;omega) (fun h=>h.elim HKK.out.2 fun h=>by have h3:n1<=bY:=(HG.out bY h).1;omega)).trans a1
      . intro b hb
        rcases hg b hb with h | h | h
        . exact .inl h
        . exact .inr (.inl h)
        . exact .inr (.inr (by omega))
    clear hj hg hm hmv hn a0 a1 a2 a3 a4 a5 a6 a7
    gi_wp2_with fail
    go_ret
    exact HFIN.out
  | false=>
    have HFIN:Hid (zni (zlM F l bw bY p J) pre (x,k) K G W (.returned (.bool true)) W2):=by
      refine⟨rfl,K,⟨?_,HKK.out.1,HKK.out.2,a0,a1⟩,fun b hb=>.inl hb,Moved.of_below HB2.out⟩
      rw[List.filter_append,List.filter_cons_of_neg (by simp [hp]),List.filter_nil,List.append_nil]
      exact HJ2.out
    clear hp
    gi_wp2_with fail
    go_ret
    exact HFIN.out
attribute [local go_sem] Oper.semAt_some zbE zap
def txTT(t:LT):TT:=⟨⟨⟨#[]⟩,none,0,0,[]⟩,none,0,0,[],none,0,0,[],t⟩
theorem zh0(t:LT):(txTT t).ch=txT t.ch:=by
  rw[TT.ch_eq]
  show PT.mk (LT.ch ⟨⟨#[]⟩,none,0,0,[]⟩) [] (chL []) t.ch=_
  rw[chL]
  have:LT.ch ⟨⟨#[]⟩,none,0,0,[]⟩=[]:=List.eq_nil_of_length_eq_zero (LT.ch_length _)
  rw[this]
  rfl
theorem zoY{S G:Nat->Prop}{W:World}{t:LT}(h:t.inS G W):ShT S (txTT t) G W:=
  ⟨⟨⟨LiesS.nil _ _ _,rfl,Nat.zero_le _,Nat.zero_le _⟩,h.mono fun _ hb _=>.inr hb,LiesS.nil _ _ _,rfl,fun _=>rfl,Nat.zero_le _,(by intro a ha;cases ha),LiesS.nil _ _ _,rfl,fun _=>rfl,Nat.zero_le _⟩,LiesS.nil _ _ _,AllS.nil _ _⟩
theorem ziZ(us:List LT):InR (zY us):=by
  intro o ho
  obtain⟨x,hx,rfl⟩:=List.mem_map.1 ho
  obtain⟨t,_,hx⟩:=List.mem_flatMap.1 hx
  exact t.ch_in _ (List.mem_map.2 ⟨x,hx,rfl⟩)
theorem znx(us:List LT)(L:Option Addr)(m c:Nat)(W:World)(hl:Lies W W.heap.size L (zu us))(hm:us.length=m)(hm2:m<=4294967296)(hok:∀ t∈us,t.ok W W.heap.size)(hz:(zY us).length<=4294967296) :
    Calls Tryz.prog 54 #[.slice L m c] W fun e w'=>∃ t:LT,e=.returned (.agg #[.string t.s,.slice t.A t.n t.c])/\Hid (t.ch=zY us/\OwnL w' W.heap.size t)/\Below W.heap.size W w':=by
  refine(ziG us L m c W hl hm hm2 hok hz).mono ?_
  rintro e W1 ⟨v,rfl,hown,hb1⟩
  obtain⟨D,d,rfl,_,_,_⟩:=zh hown
  exact⟨zjj (zY us) D d,rfl,⟨zcr (ziZ us) D d,rfl,⟨Nat.le_trans (zhB _) hz,by show comp ((zY us).map (·.2))=comp ((zjj (zY us) D d).ch.map (·.2));rw[zcr (ziZ us)]⟩,(by show(zi _).size<=_;rw[zG];exact hz),hown⟩,hb1⟩
theorem LT.s_nil(t:LT):t.s.toList=[]↔t.ch=[]:=by
  have h1:=t.ch_length
  have h2:t.s.toList.length=t.s.size:=by rw[ByteArray.toList_eq,Array.length_toList];rfl
  constructor
  . intro h
    rw[h,List.length_nil]at h2
    exact List.eq_nil_of_length_eq_zero (by omega)
  . intro h
    rw[h,List.length_nil]at h1
    exact List.eq_nil_of_length_eq_zero (by omega)
def zlN(J:List TT->(Nat->Prop)->World->Prop)(pre:List TT)(qs:List PT)(K:Nat->Prop)(W:World)(e:Ending)(W':World):Prop:=
  e=.returned (.bool true)/\∃ ys K',chL ys=qs/\J (pre++ ys) K' W'/\(∀ b,K' b->K b\/(W.heap.size<=b/\b < W'.heap.size))/\Moved K W W'
theorem zdD{l n1:Nat}{S:Nat->Prop}{okp:List TT->Prop}{J:List TT->(Nat->Prop)->World->Prop}(hT:Takes Tryz.prog encT l n1 (ShT S) okp J)(hH:Held n1 J)
    (pre:List TT) (K:Nat->Prop) (A:Option Addr) (n c:Nat) (us:List LT) (W:World) (hJ:J pre K W) (hn1:n1<=W.heap.size) (hl:Lies W W.heap.size A (zu us)) (hn:us.length=n) (hn2:n<=4294967296)
    (hok:∀ t∈us,t.ok W W.heap.size) (hz:(zY us).length<=4294967296) (hKb:∀ b,K b->b < W.heap.size) (hokp:zY us≠[]->∀ x:TT,x.ch=txT (zY us)->okp (pre++ [x])) :
    Calls Tryz.prog 138 #[.slice A n c,.func (.yield l) #[] #[]] W (zlN J pre (txs (zY us)) K W):=by
  have HJ:=Lib.hid hJ
  have HH:=Lib.hid hH
  have HT:=Lib.hid hT
  have HP:=Lib.hid hokp
  have HKB:=Lib.hid hKb
  have hcat:=Lib.hid (znx us A n c W hl hn hn2 hok hz)
  clear hJ hH hT hokp hKb hl hn hok
  go_enter Tryz.func138,Tryz.ntmps138
  go_wp2_with fail
  refine hcat.out.mono ?_
  rintro e W1 ⟨t,rfl,HO,hb1⟩
  clear hcat
  generalize hw3:W1.alloc (.cells #[.string t.s,.slice t.A t.n t.c] 24)=W3
  have y3:Whole W3 W1.heap.size 24 #[.string t.s,.slice t.A t.n t.c]:=by rw[<-hw3];exact Whole.made _ _ _
  have hb3:Below W1.heap.size W1 W3:=by rw[<-hw3];exact(Below.refl _ _).alloc (Nat.le_refl _) _
  have c0:W3.cell? ⟨W1.heap.size,0,none⟩=some (.string t.s):=y3.at_ 0
  have c1:W3.cell? ⟨W1.heap.size,1,none⟩=some (.slice t.A t.n t.c):=y3.at_ 1
  go_upto_region 2 with (fail)
  refine(wpIn_wide (n:=1)).1 ?_
  have HB3:Hid (Below W.heap.size W W3):=zf hb1 (Nat.le_refl _) hb3
  have HT3:Hid (t.inS (fun b=>W.heap.size<=b/\b < W3.heap.size) W3):=(HO.out.2.inS.keep (Stays.of hb3)).mono fun b hb hl=>⟨hb,hl⟩
  have hz3:W.heap.size<=W3.heap.size:=HB3.out.size
  have HJ3:Hid (J pre K W3):=HH.out _ _ _ _ HJ.out hn1 (Moved.of_below HB3.out)
  clear hb1 hb3 hw3 y3
  gi_wp2_with fail
  rotate_left
  . have hne:¬ t.s.toList=[]:=by assumption
    have hcn:zY us≠[]:=fun h=>hne ((LT.s_nil t).2 (HO.out.1.trans h))
    clear hne
    obtain⟨fn,tmps,assign,body,hy,hR⟩:=HT.out pre K (fun b=>W.heap.size<=b/\b < W3.heap.size) (txTT t) W3 HJ3.out (zoY HT3.out) (HP.out hcn _ (by rw[zh0,HO.out.1])) (by omega) (fun b hb=>⟨by omega,hb.2,fun h=>by have:=HKB.out b h;omega⟩)
    dsimp only[encT,txTT]at hy
    rw[hy,Oper.uponIn_round]
    refine⟨(fun hd=>by cases hd),hR.mono ?_⟩
    rintro e W4 ⟨rfl,K',hj,hg,hm⟩
    have HFIN:Hid (zlN J pre (txs (zY us)) K W (.returned (.bool true)) W4):=by
      refine⟨rfl,[txTT t],K',?_,hj,?_,(Moved.of_below HB3.out).join hm fun i hi h=>h.elim id fun h=>by omega⟩
      . rw[chL,chL,zh0,HO.out.1,zcs hcn]
      . intro b hb
        rcases hg b hb with h | h | h
        . exact .inl h
        . exact .inr ⟨h.1,Nat.lt_of_lt_of_le h.2 hm.size⟩
        . exact .inr (by omega)
    clear hj hg hm hy c0 c1
    gi_wp2_with fail
    go_wp2_with fail
    go_ret
    exact HFIN.out
  . have hne:t.s.toList=[]:=by assumption
    have hcn:zY us=[]:=HO.out.1.symm.trans ((LT.s_nil t).1 hne)
    have HFIN:Hid (zlN J pre (txs (zY us)) K W (.returned (.bool true)) W3):=by
      refine⟨rfl,[],K,?_,?_,fun b hb=>.inl hb,Moved.of_below HB3.out⟩
      . rw[chL,hcn];rfl
      . rw[List.append_nil];exact HJ3.out
    clear hne hcn c0 c1
    go_wp2_with fail
    go_ret
    exact HFIN.out
attribute [local go_sem] Oper.semAt_some zbE zap
theorem zdE(A:Option Addr)(n c:Nat)(w:World) :
    Calls Tryz.prog 98 #[.slice A n c] w fun e w'=>e=.returned (.func (.func 137) #[] #[.pointer (some ⟨w.heap.size,0,none⟩)])/\w'.cell? ⟨w.heap.size,0,none⟩=some (.slice A n c)/\w.heap.size < w'.heap.size/\Below w.heap.size w w':=by
  go_enter Tryz.func98,Tryz.ntmps98
  go_wp2
  go_ret
  exact⟨rfl,(Whole.made w _ _).at_ 0,(Whole.made w _ _).lt,(Below.refl _ _).alloc (Nat.le_refl _) _⟩
theorem zlO:(Tryz.prog.info? 24).map (fun i=>(i.zero,i.size,i.bytes))=some (some (.agg #[.string ⟨#[]⟩,.slice none 0 0]),2,40):=by kernel_rfl
def elTT(t:TT):TT:=⟨t.tag,t.A,t.n,t.c,t.atts,t.K,t.kn,t.kc,t.kids,⟨⟨#[]⟩,none,0,0,[]⟩⟩
theorem zfc:LT.ch ⟨⟨#[]⟩,none,0,0,[]⟩=[]:=List.eq_nil_of_length_eq_zero (LT.ch_length _)
theorem zlP(t:TT):(elTT t).ch=⟨t.ch.tag,t.ch.attrs,t.ch.kids,[]⟩:=by
  rw[TT.ch_eq,TT.ch_tag,TT.ch_attrs,TT.ch_kids]
  show PT.mk t.tag.ch (t.atts.map AT.ch) (chL t.kids) (LT.ch ⟨⟨#[]⟩,none,0,0,[]⟩)=_
  rw[zfc]
theorem zoZ{S:Nat->Prop}{W:World}{t:TT}(h:t.inS S W)(hk:AllS S W t.kids):ShT S (elTT t) (fun _=>False) W:=
  ⟨⟨h.tag.mono fun _ hb _=>.inl hb,⟨LiesS.nil _ _ _,rfl,Nat.zero_le _,Nat.zero_le _⟩,h.att.mono fun _ hb _=>.inl hb,h.an,h.ac,h.am,fun a ha=>(h.atts a ha).mono fun _ hb _=>.inl hb,h.kid.mono fun _ hb _=>.inl hb,h.kn,h.kc,h.km⟩,h.kid,hk⟩
theorem zny{w:World}{base:Nat}{e:TypeId}{size n c:Nat}{A:Option Addr}{xs:List Value}(h:w.ownsRow base e size (.slice A n c) n xs):w.ownsRow base e size (.slice A 0 c) 0 []:=by
  refine⟨by simp,?_⟩
  rcases h.2 with ⟨hv,h0⟩ | ⟨g,cap,cur,hv,hg,hc,hnc,hcm,hcs,_⟩
  . injection hv with h1 _ h3
    subst h1 h3
    exact .inl ⟨rfl,rfl⟩
  . injection hv with h1 _ h3
    subst h1 h3
    exact .inr ⟨g,c,cur,rfl,hg,hc,Nat.zero_le _,hcm,hcs,by simp⟩
def zfd(S:Nat->Prop)(J:List TT->(Nat->Prop)->World->Prop)(Q:List PT)(n:Nat)(W:World)(v i:Value)(wr:World):Prop:=
  ∃ (k:Nat) (us:List LT) (xs:List TT) (K:Nat->Prop),k<=n/\i=.int .i64 (k:Int)/\wr.ownsRow W.heap.size 24 2 v us.length (zu us)/\(∀ g,v.ownBlock=some g->¬ K g)/\(∀ u∈us,u.inS S wr)/\
    J xs K wr/\(∀ b,K b->b < wr.heap.size/\¬ S b)/\sibs Q=chL xs++ sibF (Q.drop k) (zY us)/\us.length<=k/\(zY us).length<=bkL (Q.take k)/\Stays S W wr
theorem zfe(us:List LT)(t:LT):zY (us++ [t])=zY us++ t.ch:=by simp [zY]
theorem zg3(us:List LT)(t:LT):zu (us++ [t])=zu us++ [.string t.s,.slice t.A t.n t.c]:=by simp [zu]
theorem znz{S:Nat->Prop}{J:List TT->(Nat->Prop)->World->Prop}{Q:List PT}{n k:Nat}{W wr w5 w7:World}{v v':Value}{us:List LT}{xs:List TT}{K:Nat->Prop}{t:TT}{o:Obj}(hH:Held W.heap.size J)(hS:∀ b,S b->b < W.heap.size)
    (hk:k < n) (hq:Q[k]?=some t.ch) (htx:t.ch.tag=[]) (hown:wr.ownsRow W.heap.size 24 2 v us.length (zu us)) (hvk:∀ g,v.ownBlock=some g->¬ K g) (hus:∀ u∈us,u.inS S wr) (hJ:J xs K wr) (hK:∀ b,K b->b < wr.heap.size/\¬ S b)
    (hsib:sibs Q=chL xs++ sibF (Q.drop k) (zY us)) (hul:us.length<=k) (hcl:(zY us).length<=bkL (Q.take k)) (hst:Stays S W wr) (hb5:Below wr.heap.size wr w5) (ht:t.inS S w5)
    (hown7:w7.ownsRow W.heap.size 24 2 v' (us.length+1) (zu us++ [.string t.text.s,.slice t.text.A t.text.n t.text.c])) (hg:(w5.alloc o).grownBy w7 v.ownBlock) (hv':v'.ownBlock=v.ownBlock\/v'.ownBlock=some (w5.alloc o).heap.size) :
    zfd S J Q n W v' (.int .i64 ((k:Int)+1)) w7:=by
  have hz5:=hb5.size
  have hz6:(w5.alloc o).heap.size=w5.heap.size+1:=by simp
  have hz7:=hg.size
  have hb6:Below wr.heap.size wr (w5.alloc o):=hb5.alloc hz5 o
  have hzr:=hst.1
  have hgl:∀ g,v.ownBlock=some g->W.heap.size<=g/\g < wr.heap.size:=hown.lt
  have hm:Moved (fun b=>W.heap.size<=b/\¬ K b) wr w7:=
    (Moved.of_below hb6).join (Y:=fun b=>v.ownBlock=some b) ⟨hg.os,hg.tape,hg.output,hg.size,fun i hi hn=>hg.block i hi (fun e=>hn e.symm)⟩ (fun i _ h=>⟨(hgl i h).1,hvk i h⟩)
  have hss:Stays S w5 w7:=⟨by omega,fun b hb hl=>(hg.block b (by omega) (fun e=>by have:=(hgl b e.symm).1;have:=hS b hb;omega)).trans (Below.heap_alloc _ _ _ hl)⟩
  have hss2:Stays S wr w7:=(Stays.of hb5).trans hss
  refine⟨k+1,us++ [t.text],xs,K,by omega,by simp,?_,?_,?_,hH _ _ _ _ hJ hzr hm,?_,?_,?_,?_,hst.trans hss2⟩
  . rw[List.length_append,List.length_singleton,zg3];exact hown7
  . intro g h
    rcases hv' with e | e
    . exact hvk g (by rw[<-e];exact h)
    . rw[e]at h
      injection h with h
      intro hk
      have:=(hK g hk).1
      omega
  . intro u hu
    rcases List.mem_append.1 hu with hu | hu
    . exact(hus u hu).keep hss2
    . obtain rfl:=List.mem_singleton.1 hu
      exact ht.text.keep hss
  . exact fun b hb=>⟨by have:=(hK b hb).1;omega,(hK b hb).2⟩
  . rw[hsib,zdN hq,if_pos htx,zfe,TT.ch_text]
  . rw[List.length_append,List.length_singleton];omega
  . rw[zfe,List.length_append,zw hq,zN,zaT,PT.bk_eq,TT.ch_text]
    omega
theorem zpQ{S:Nat->Prop}{J:List TT->(Nat->Prop)->World->Prop}{Q:List PT}{n k:Nat}{W wr w5 w6 w7:World}{A:Option Addr}{m c:Nat}{us:List LT}{xs ys:List TT}{K K' K'':Nat->Prop}{t:TT}(hS:∀ b,S b->b < W.heap.size)
    (hk:k < n) (hq:Q[k]?=some t.ch) (htx:t.ch.tag≠[]) (hown:wr.ownsRow W.heap.size 24 2 (.slice A m c) m (zu us)) (hvk:∀ g,(Value.slice A m c).ownBlock=some g->¬ K g) (hK:∀ b,K b->b < wr.heap.size/\¬ S b)
    (hsib:sibs Q=chL xs++ sibF (Q.drop k) (zY us)) (hst:Stays S W wr) (hb5:Below wr.heap.size wr w5)
    (hys:chL ys=txs (zY us)) (hK':∀ b,K' b->K b\/(w5.heap.size<=b/\b < w6.heap.size)) (hm6:Moved K w5 w6) (hJ:J (xs++ ys++ [elTT t]) K'' w7) (hK'':∀ b,K'' b->K' b\/False\/(w6.heap.size<=b/\b < w7.heap.size)) (hm7:Moved K' w6 w7) :
    zfd S J Q n W (.slice A 0 c) (.int .i64 ((k:Int)+1)) w7:=by
  have hz5:=hb5.size
  have hz6:=hm6.size
  have hz7:=hm7.size
  have hzr:=hst.1
  have hm57:Moved K w5 w7:=hm6.join hm7 fun i hi h=>(hK' i h).elim id fun h=>by omega
  have hm:Moved K wr w7:=(Moved.of_below hb5).join hm57 fun _ _ h=>h
  have hb:∀ b,K'' b->K b\/wr.heap.size<=b:=fun b h=>by
    rcases hK'' b h with h | h | h
    . rcases hK' b h with h | h
      . exact .inl h
      . exact .inr (by omega)
    . exact h.elim
    . exact .inr (by omega)
  have hown7:=hm.own hown hvk
  refine⟨k+1,[],xs++ ys++ [elTT t],K'',by omega,by simp,zny hown7,?_,(fun u hu=>by cases hu),hJ,?_,?_,Nat.zero_le _,Nat.zero_le _,?_⟩
  . intro g h h2
    have h3:(Value.slice A m c).ownBlock=some g:=by cases A<;>exact h
    rcases hb g h2 with h2 | h2
    . exact hvk g h3 h2
    . have:=(hown.lt g h3).2;omega
  . intro b h
    refine⟨?_,?_⟩
    . rcases hK'' b h with h | h | h
      . rcases hK' b h with h | h
        . have:=(hK b h).1;omega
        . omega
      . exact h.elim
      . omega
    . rcases hb b h with h | h
      . exact(hK b h).2
      . intro hs;have:=hS b hs;omega
  . rw[hsib,zdN hq,if_neg htx,zn,zn,hys,chL,chL,zlP]
    simp [zY]
  . exact hst.trans (hm.stays fun i hi hs h=>(hK i h).2 hs)
attribute [local go_sem] Oper.semAt_some zbE zap
theorem zff{S:Nat->Prop}{A:Option Addr}{n c bx:Nat}{ts:List TT}{W:World}(hc:W.cell? ⟨bx,0,none⟩=some (.slice A n c))(hl:LiesS S W A (ze ts))(hok:AllS S W ts)(hn:ts.length=n)(hS:∀ b,S b->b < W.heap.size)(hbk:bkL (chL ts)<=1048576) :
    zoI Tryz.prog 137 #[.pointer (some ⟨bx,0,none⟩)] encT (ShT S) (fun pre=>chL pre <+: sibs (chL ts)) (fun xs=>chL xs=sibs (chL ts)) S W:=by
  intro l J K0 hH hT hJ hK0
  obtain⟨i0,hi,hz0,hz1,hz2⟩:=info_parts zlO
  have hnb:n<=1048576:=by have:=zau (chL ts);rw[zv,hn]at this;omega
  have HN:=Lib.hid hn
  have HL:=Lib.hid hl
  have HOK:=Lib.hid hok
  have HH:=Lib.hid hH
  have HT:=Lib.hid hT
  have HS:=Lib.hid hS
  have HBK:=Lib.hid hbk
  have HST:Hid (zfd S J (chL ts) n W (.slice none 0 0) (.int .i64 0) W):=
    ⟨0,[],[],K0,Nat.zero_le _,rfl,World.ownsRow_nil _ _ _ _,(fun g h=>by cases h),(fun u hu=>by cases hu),hJ,hK0,rfl,Nat.zero_le _,Nat.zero_le _,Stays.refl _ _⟩
  clear hn hl hok hH hT hS hJ hK0 hbk
  go_enter Tryz.func137,Tryz.ntmps137
  go_wp2_with fail
  go_loopw [3,8] (zfd S J (chL ts) n W) (fun _ i _=>n - (intOf i).toNat)
  case atStart=>exact HST.out
  case round=>
    clear HST
    obtain⟨k,us,xs,K,hk,rfl,hown,hvk,hus,hJ,hK,hsib,hul,hcl,hst⟩:=hrel
    obtain⟨A5,c5,rfl,_,_,_⟩:=zh hown
    have HOW:=Lib.hid hown
    have HVK:=Lib.hid hvk
    have HUS:=Lib.hid hus
    have HJ:=Lib.hid hJ
    have HK:=Lib.hid hK
    have HSIB:=Lib.hid hsib
    have HCL:=Lib.hid hcl
    have HSTS:=Lib.hid hst
    have hzr:=hst.1
    have HPB:Hid ((zY us).length<=1048576):=Nat.le_trans hcl (Nat.le_trans (zfD _ _) HBK.out)
    clear hown hvk hus hJ hK hsib hcl hst
    by_cases hlt:k < n
    . obtain⟨ad,t,rfl,hbA,d0,d1,d2,d3,d4,d5,HR⟩:=(HL.out.keep HSTS.out).lies.tree (k:=k) (by rw[HN.out];exact hlt)
      have hk0:(0:Int)<=(k:Int):=Int.natCast_nonneg _
      have hk1:(k:Int) < (n:Int):=by omega
      have HQ:=Lib.hid (ziB HR.out)
      have HTI:Hid (t.inS S wr/\AllS S wr t.kids):=⟨((HOK.out.keep HSTS.out).get (List.mem_of_getElem? HR.out)),(HOK.out.keep HSTS.out).kids (List.mem_of_getElem? HR.out)⟩
      go_wp2_with fail
      generalize hw4:wr.alloc (.cells #[.string t.tag.s,.slice t.tag.A t.tag.n t.tag.c,.slice t.A t.n t.c,.slice t.K t.kn t.kc,.string t.text.s,.slice t.text.A t.text.n t.text.c] 48)=w4
      have y4:Whole w4 wr.heap.size 48 #[.string t.tag.s,.slice t.tag.A t.tag.n t.tag.c,.slice t.A t.n t.c,.slice t.K t.kn t.kc,.string t.text.s,.slice t.text.A t.text.n t.text.c]:=by rw[<-hw4];exact Whole.made _ _ _
      have hb4:Below wr.heap.size wr w4:=by rw[<-hw4];exact(Below.refl _ _).alloc (Nat.le_refl _) _
      clear hw4 d0 d1 d2 d3 d4 d5
      have e0:w4.cell? ⟨wr.heap.size,0,none⟩=some (.string t.tag.s):=y4.at_ 0
      have e1:w4.cell? ⟨wr.heap.size,1,none⟩=some (.slice t.tag.A t.tag.n t.tag.c):=y4.at_ 1
      have e2:w4.cell? ⟨wr.heap.size,2,none⟩=some (.slice t.A t.n t.c):=y4.at_ 2
      have e3:w4.cell? ⟨wr.heap.size,3,none⟩=some (.slice t.K t.kn t.kc):=y4.at_ 3
      have e4:w4.cell? ⟨wr.heap.size,4,none⟩=some (.string t.text.s):=y4.at_ 4
      have e5:w4.cell? ⟨wr.heap.size,5,none⟩=some (.slice t.text.A t.text.n t.text.c):=y4.at_ 5
      go_wp2_with fail
      refine(zef t w4).mono ?_
      rintro e w5 ⟨rfl,hb5⟩
      have y5:=y4.below hb5 y4.lt
      have HB5:Hid (Below wr.heap.size wr w5):=zf hb4 (Nat.le_refl _) hb5
      have hz4:=y4.lt
      have hz5:=hb5.size
      clear e0 e1 e2 e3 e4 e5 y4 hb4 hb5
      have e0:w5.cell? ⟨wr.heap.size,0,none⟩=some (.string t.tag.s):=y5.at_ 0
      have e1:w5.cell? ⟨wr.heap.size,1,none⟩=some (.slice t.tag.A t.tag.n t.tag.c):=y5.at_ 1
      have e2:w5.cell? ⟨wr.heap.size,2,none⟩=some (.slice t.A t.n t.c):=y5.at_ 2
      have e3:w5.cell? ⟨wr.heap.size,3,none⟩=some (.slice t.K t.kn t.kc):=y5.at_ 3
      have e4:w5.cell? ⟨wr.heap.size,4,none⟩=some (.string t.text.s):=y5.at_ 4
      have e5:w5.cell? ⟨wr.heap.size,5,none⟩=some (.slice t.text.A t.text.n t.text.c):=y5.at_ 5
      have HT5:Hid (t.inS S w5/\AllS S w5 t.kids):=⟨HTI.out.1.keep (Stays.of HB5.out),HTI.out.2.keep (Stays.of HB5.out)⟩
      have hown5:=zJ HOW.out HB5.out
      cases he:elB t with
      | false=>
        have HTX:Hid (t.ch.tag=[]):=by
          show _=_
          rw[TT.ch_tag]
          unfold elB at he
          simpa using he
        clear he y5
        generalize hzu:us.length=z at *
        have HZ:=Lib.hid hzu
        clear hzu
        go_wp2_with (at_builtin;refine wpList_append_own_at _ rfl _ _ 42 rfl W.heap.size 24 i0 _ 2 40 Tryz.underlying42 hi hz0 hz1 hz2 rfl (by decide) (.slice A5 z c5) z _ rfl (hown5.alloc _) ⟨w5.heap.size,0,none⟩ 1 1 [.string t.text.s,.slice t.text.A t.text.n t.text.c] rfl rfl (zT w5 _ _) (by simp [Value.oneCell']) (by simp only[maxLen];omega) (by omega) (by simp;omega) ?_)
        intro v' w7 hown7 hgrow _ hv'
        obtain⟨A7,d7,rfl,_,_,_⟩:=zh hown7
        have HIN:Hid (zfd S J (chL ts) n W (.slice A7 (z+1) d7) (.int .i64 ((k:Int)+1)) w7):=by
          have how:=HOW.out
          have hon:=hown7
          have hvk:=HVK.out
          rw[<-HZ.out]at how hon hvk
          have hul':us.length<=k:=by rw[HZ.out];exact hul
          rw[<-HZ.out]
          exact znz HH.out HS.out hlt HQ.out HTX.out how hvk HUS.out HJ.out HK.out HSIB.out hul' HCL.out HSTS.out HB5.out HT5.out.1 hon (by rw[<-HZ.out]at hgrow;exact hgrow) (by rw[<-HZ.out]at hv';rw[World.size_alloc];exact hv')
        clear hgrow hown7 hown5 hv' e0 e1 e2 e3 e4 e5
        go_wp2_with fail
        go_roundw
        case rel=>exact HIN.out
        case measure=>simp [intOf];omega
      | true=>
        have HTX:Hid (t.ch.tag≠[]):=by
          show _≠_
          rw[TT.ch_tag]
          exact(zkM t).1 he
        clear he
        have HKEEP:Hid (∀ w6,Moved K w5 w6->w6.cell? ⟨wr.heap.size,0,none⟩=some (.string t.tag.s)/\w6.cell? ⟨wr.heap.size,1,none⟩=some (.slice t.tag.A t.tag.n t.tag.c)/\w6.cell? ⟨wr.heap.size,2,none⟩=some (.slice t.A t.n t.c)/\w6.cell? ⟨wr.heap.size,3,none⟩=some (.slice t.K t.kn t.kc)):=fun w6 h=>by
          have y6:=h.whole y5 (fun h=>by have:=(HK.out _ h).1;omega)
          exact⟨y6.at_ 0,y6.at_ 1,y6.at_ 2,y6.at_ 3⟩
        have hJ5:J xs K w5:=HH.out _ _ _ _ HJ.out hzr (Moved.of_below HB5.out)
        have htog:=zdD HT.out HH.out xs K A5 us.length c5 us w5 hJ5 (by omega) (Lies.own hown5) rfl (by omega) (fun u hu=>((HUS.out u hu).keep (Stays.of HB5.out)).ok) (by have:=HPB.out;omega) (fun b h=>by have:=(HK.out b h).1;omega) (fun hp x hx=>by
          show chL (xs++ [x]) <+: _
          rw[HSIB.out,zdN HQ.out,if_neg HTX.out,zn,chL,chL,hx,zcs hp,List.prefix_append_right_inj]
          exact⟨_,rfl⟩)
        have HTOG:=Lib.hid htog
        clear htog hJ5 y5
        go_upto_region 6 with (fail)
        refine(wpIn_wide (n:=1)).1 ?_
        gi_wp2_with fail
        refine callsIn_wide.2 (HTOG.out.mono ?_)
        rintro e w6 ⟨rfl,ys,K',hys,hJ6,hK',hm6⟩
        clear e0 e1 e2 e3 e4 e5
        obtain⟨f0,f1,f2,f3⟩:=HKEEP.out w6 hm6
        have hz6:=hm6.size
        have hpre:chL (xs++ ys++ [elTT t]) <+: sibs (chL ts):=by
          rw[HSIB.out,zdN HQ.out,if_neg HTX.out,zn,zn,hys,chL,chL,zlP,List.append_assoc,List.prefix_append_right_inj,List.prefix_append_right_inj]
          exact⟨_,rfl⟩
        obtain⟨fn,tmps,assign,body,hy,hR⟩:=HT.out (xs++ ys) K' (fun _=>False) (elTT t) w6 hJ6 ((zoZ HT5.out.1 HT5.out.2).moved (hm6.mono fun i _ h=>by rintro(h2 | h2);exact(HK.out _ h).2 h2;exact h2)) hpre (by omega) (fun b h=>h.elim)
        have HA:=Lib.hid hys
        have HB:=Lib.hid hK'
        have HC:=Lib.hid hm6
        dsimp only[encT,elTT]at hy
        clear hpre hJ6 hys hK' hm6
        gi_wp2_with fail
        refine hR.mono ?_
        rintro e w7 ⟨rfl,K'',hJ7,hK'',hm7⟩
        have HIN:Hid (zfd S J (chL ts) n W (.slice A5 0 c5) (.int .i64 ((k:Int)+1)) w7):=
          zpQ HS.out hlt HQ.out HTX.out HOW.out HVK.out HK.out HSIB.out HSTS.out HB5.out HA.out HB.out HC.out hJ7 hK'' (hm7.mono fun i _ h=>h.elim id fun h=>h.elim)
        clear hJ7 hK'' hm7 hy hR f0 f1 f2 f3 hown5 HTOG HKEEP
        gi_wp2_with fail
        go_wp2_with fail
        go_roundw
        case rel=>exact HIN.out
        case measure=>simp [intOf];omega
    . obtain rfl:k=n:=by omega
      have hown5:=HOW.out
      have hqe:sibF ((chL ts).drop k) (zY us)=txs (zY us):=zov (by rw[zv,HN.out];exact Nat.le_refl _) _
      have htog:=zdD HT.out HH.out xs K A5 us.length c5 us wr HJ.out hzr (Lies.own hown5) rfl (by omega) (fun u hu=>(HUS.out u hu).ok) (by have:=HPB.out;omega) (fun b h=>(HK.out b h).1) (fun hp x hx=>by
        show chL (xs++ [x]) <+: _
        rw[HSIB.out,hqe,zn,chL,chL,hx,zcs hp]
        exact List.prefix_refl _)
      have HQE:=Lib.hid hqe
      clear hqe hown5
      go_wp2_with fail
      refine htog.mono ?_
      rintro e w6 ⟨rfl,ys,K',hys,hJ6,hK',hm6⟩
      have HFIN:Hid (∃ xs K',chL xs=sibs (chL ts)/\J xs K' w6):=⟨xs++ ys,K',by rw[zn,hys,HSIB.out,HQE.out],hJ6⟩
      clear hys hJ6 hK' hm6 htog
      go_wp2_with fail
      go_end0
      exact⟨⟨_,rfl⟩,HFIN.out⟩
attribute [local go_sem] Oper.semAt_some zbE zap
theorem PT.lt_ind{p:List PT->Prop}(h:∀ L,(∀ L',bkL L' < bkL L->p L')->p L):∀ L,p L:=by
  have key:∀ n L,bkL L < n->p L:=by
    intro n
    induction n with
    | zero=>intro L h0;omega
    | succ n ih=>intro L hl;exact h L fun L' hl'=>ih _ (by omega)
  exact fun L=>key _ L (Nat.lt_succ_self _)
theorem zn7{L:List PT}{x:PT}(h:x∈sibs L):bkL x.kids < bkL L:=by
  obtain⟨_,h2⟩:=zkK h
  rcases h2 with h2 | ⟨t,ht,h2⟩
  . rw[h2]
    cases L with
    | nil=>cases h
    | cons y ys=>
      rw[bkL,bkL,PT.bk_eq]
      omega
  . rw[h2];exact ziy ht
def zg4(k:Nat)(l:List PT):List Found:=l.flatMap fun t=>(t.tag,t.text,k)::za7 (zp t.kids) (k+1)
theorem zfg(L:List PT)(k:Nat):za7 (zp L) k=zg4 k (sibs L):=zkL L k
theorem zfh(k:Nat)(l:List PT)(t:PT):zg4 k (l++ [t])=zg4 k l++ (t.tag,t.text,k)::za7 (zp t.kids) (k+1):=by simp [zg4]
theorem zg5{k:Nat}{a b:List PT}(h:a <+: b):zg4 k a <+: zg4 k b:=by
  obtain⟨c,rfl⟩:=h
  unfold zg4
  rw[List.flatMap_append]
  exact List.prefix_append _ _
def zfT(J:List (TT × Nat)->(Nat->Prop)->World->Prop)(pre:List (TT × Nat))(qs:List Found)(K:Nat->Prop)(W:World)(e:Ending)(W':World):Prop:=
  e=.returned (.bool true)/\∃ ys K',ys.map zcX=qs/\J (pre++ ys) K' W'/\(∀ b,K' b->K b\/(W.heap.size<=b/\b < W'.heap.size))/\Moved K W W'
def zo0(J:List (TT × Nat)->(Nat->Prop)->World->Prop)(pre:List (TT × Nat))(k:Nat)(K:Nat->Prop)(w:World)(xs:List TT)(K':Nat->Prop)(W':World):Prop:=
  ∃ ys,J (pre++ ys) K' W'/\ys.map zcX=zg4 k (chL xs)/\(∀ b,K' b->K b\/(w.heap.size<=b/\b < W'.heap.size))/\Moved K w W'
theorem zjT{n1 k:Nat}{J:List (TT × Nat)->(Nat->Prop)->World->Prop}{pre:List (TT × Nat)}{K:Nat->Prop}{w:World}(hH:Held n1 J)(hn1:n1<=w.heap.size):Held w.heap.size (zo0 J pre k K w):=by
  rintro xs K' W1 W2 ⟨ys,hj,he,hk,hm⟩ hz hmv
  refine⟨ys,hH _ _ _ _ hj (by omega) (hmv.mono fun i _ h=>⟨by omega,h.2⟩),he,fun b hb=>(hk b hb).imp id fun h=>⟨h.1,Nat.lt_of_lt_of_le h.2 hmv.size⟩,?_⟩
  exact hm.join hmv fun i hi h=>by have:=h.1;omega
theorem znA{F n1:Nat}{caps:Array Value}{S:Nat->Prop}{okp:List (TT × Nat)->Prop}{J:List (TT × Nat)->(Nat->Prop)->World->Prop}(hE:∀ args w',Sem.run Tryz.prog (callFunc F args) w'=.ok (.enter F args) w')(hSh:zpP F caps n1 S okp J)(hH:Held n1 J)(hS:∀ b,S b->b < n1) :
    ∀ (Q:List PT) (k:Nat) (A:Option Addr) (n c:Nat) (ts:List TT) (pre:List (TT × Nat)) (K:Nat->Prop) (W:World),chL ts=Q->bkL Q<=1048576->k+bkL Q<=2097152->LiesS S W A (ze ts)->AllS S W ts->ts.length=n->J pre K W->n1<=W.heap.size->(∀ b,K b->b < W.heap.size/\¬ S b)->
      (∀ ys,ys.map zcX <+: za7 (zp Q) k->okp (pre++ ys))->
      Calls Tryz.prog 78 #[.slice A n c,.int .i64 (k:Int),.func (.func F) #[] caps] W (zfT J pre (za7 (zp Q) k) K W):=by
  have HE:=Lib.hid hE
  have HSH:=Lib.hid hSh
  have HH:=Lib.hid hH
  have HS:=Lib.hid hS
  clear hE hSh hH hS
  apply PT.lt_ind
  intro Q IH k A n c ts pre K W hq hbk hkb hl hok hn hJ hn1 hK hokp
  have HIH:=Lib.hid IH
  have HQ:=Lib.hid hq
  have HL:=Lib.hid hl
  have HOK:=Lib.hid hok
  have HN:=Lib.hid hn
  have HJ:=Lib.hid hJ
  have HK:=Lib.hid hK
  have HP:=Lib.hid hokp
  clear IH hq hl hok hn hJ hK hokp
  refine callsIn_wide.1 (callsIn_of_wp_marks (n:=1) Tryz.func78 rfl trivial ?_ rfl)
  simp only[Tryz.ntmps78,List.size_toArray,List.length_cons,List.length_nil,Nat.reduceAdd,Nat.reduceSub,Array.replicate_succ,Array.replicate_zero,List.push_toArray,List.append_toArray,List.nil_append,List.cons_append]
  generalize hw3:((W.alloc (.cells #[.int .i64 (k:Int)] 3)).alloc (.cells #[.func (.func F) #[] caps] 114)).alloc (.cells #[.bool false] 4)=w3
  have hz3:w3.heap.size=W.heap.size+3:=by rw[<-hw3];simp
  have hb3:Below W.heap.size W w3:=by rw[<-hw3];exact(((Below.refl _ _).alloc (Nat.le_refl _) _).alloc (by simp) _).alloc (by simp;omega) _
  have y4:Whole w3 W.heap.size 3 #[.int .i64 (k:Int)]:=by rw[<-hw3];exact((Whole.made W _ _).alloc _).alloc _
  have y5:Whole w3 (W.heap.size+1) 114 #[.func (.func F) #[] caps]:=by
    rw[<-hw3]
    have h:=(Whole.made (W.alloc (.cells #[.int .i64 (k:Int)] 3)) 114 #[.func (.func F) #[] caps]).alloc (.cells #[.bool false] 4)
    simp only[World.size_alloc]at h
    exact h
  have y6:Whole w3 (W.heap.size+1+1) 4 #[.bool false]:=by
    rw[<-hw3]
    have h:=Whole.made ((W.alloc (.cells #[.int .i64 (k:Int)] 3)).alloc (.cells #[.func (.func F) #[] caps] 114)) 4 #[.bool false]
    simp only[World.size_alloc]at h
    exact h
  gi_wp2_with fail
  refine callsIn_wide.2 ((zdE A n c w3).mono ?_)
  rintro e w4 ⟨rfl,hc4,hlt4,hb4⟩
  rw[hz3]at hc4 hlt4
  have Y4:=Lib.hid (y4.below hb4 y4.lt)
  have Y5:=Lib.hid (y5.below hb4 y5.lt)
  have Y6:=Lib.hid (y6.below hb4 y6.lt)
  have HB4:Hid (Below W.heap.size W w4):=zf hb3 (Nat.le_refl _) hb4
  have HC4:=Lib.hid hc4
  have hst4:Stays S W w4:=Stays.of HB4.out
  have HL4:=Lib.hid (HL.out.keep hst4)
  have HO4:=Lib.hid (HOK.out.keep hst4)
  clear hw3 hb3 hb4 y4 y5 y6 hc4 hst4
  gi_wp2_with fail
  have hbq:bkL (chL ts)<=1048576:=by rw[HQ.out];exact hbk
  refine zei (gf:=137) (lb:=#[.pointer (some ⟨W.heap.size+3,0,none⟩)]) (encs:=encT) (Sh:=ShT S) (okp:=fun p=>chL p <+: sibs (chL ts)) (done:=fun xs=>chL xs=sibs (chL ts)) (S:=S) rfl (fun _ _=>rfl) ?gives (fun _=>rfl) (zo0 J pre k K w4) K (fun b hb=>?hS) (fun b hb=>?hK0) (zjT HH.out (by omega)) ?h0 ?round ?done
  case gives=>
    intro W' hb
    have hst:Stays S w4 W':=Stays.of hb
    exact zff ((hb.cell (p:=⟨W.heap.size+3,0,none⟩) hlt4).trans HC4.out) (HL4.out.keep hst) (HO4.out.keep hst) HN.out (fun b h=>by have:=HS.out b h;have:=hb.size;omega) hbq
  case hS=>have:=HS.out b hb;omega
  case hK0=>exact⟨by have:=(HK.out b hb).1;omega,(HK.out b hb).2⟩
  case h0=>
    refine⟨[],?_,rfl,fun b hb=>.inl hb,Moved.refl _ _⟩
    rw[List.append_nil]
    exact HH.out _ _ _ _ HJ.out hn1 (Moved.of_below HB4.out)
  case round=>
    rintro l xs K' G x W1 ⟨ys,hj,he,hk',hm⟩ hsh hokx hl1 hl2 hkl hgl hks hG
    unfold encT
    generalize hw2:W1.alloc (.cells #[.string x.tag.s,.slice x.tag.A x.tag.n x.tag.c,.slice x.A x.n x.c,.slice x.K x.kn x.kc,.string x.text.s,.slice x.text.A x.text.n x.text.c] 48)=W2
    have y2:Whole W2 W1.heap.size 48 #[.string x.tag.s,.slice x.tag.A x.tag.n x.tag.c,.slice x.A x.n x.c,.slice x.K x.kn x.kc,.string x.text.s,.slice x.text.A x.text.n x.text.c]:=by rw[<-hw2];exact Whole.made _ _ _
    have hb2:Below W1.heap.size W1 W2:=by rw[<-hw2];exact(Below.refl _ _).alloc (Nat.le_refl _) _
    gi_wp2_with fail
    refine⟨hb2,fun W3 hm3=>?_⟩
    have hz4:w4.heap.size<=W1.heap.size:=hm.size
    have hz2:=y2.lt
    have hz23:=hm3.size
    have z3:=y2.at_ 0
    have Z3:Hid (Whole W3 W1.heap.size 48 #[.string x.tag.s,.slice x.tag.A x.tag.n x.tag.c,.slice x.A x.n x.c,.slice x.K x.kn x.kc,.string x.text.s,.slice x.text.A x.text.n x.text.c]):=hm3.whole y2 (fun h=>by omega)
    have hm13:Moved (fun b=>b=l) W1 W3:=(Moved.of_below hb2).join hm3 fun _ _ h=>h
    have HM43:Hid (Moved K w4 W3):=hm.join hm13 fun i hi h=>by omega
    have HJ3:Hid (J (pre++ ys) K' W3):=HH.out _ _ _ _ hj (by omega) (hm13.mono fun i _ h=>⟨by omega,fun h2=>hkl (h ▸ h2)⟩)
    have HSH3:Hid (ShT S x G W3):=hsh.moved (hm13.mono fun i _ h=>by rintro(h2 | h2);have:=HS.out i h2;omega;exact hgl (h ▸ h2))
    have hfl:=zg5 (k:=k) hokx
    rw[<-zfg,HQ.out,zn,chL,chL,zfh,TT.ch_tag,TT.ch_text,TT.ch_kids]at hfl
    have HFL:=Lib.hid hfl
    have HE2:=Lib.hid he
    have HKB:Hid (∀ b,K' b->b < W1.heap.size/\¬ S b/\(K b\/w4.heap.size<=b)):=fun b h=>⟨(hk' b h).elim (fun h=>by have:=(HK.out b h).1;omega) (fun h=>h.2),hks b h,(hk' b h).imp id (fun h=>h.1)⟩
    have HG:=Lib.hid hG
    have HOKX:=Lib.hid hokx
    have HK':=Lib.hid hk'
    have HM:=Lib.hid hm
    have HM13:=Lib.hid hm13
    have hnk:∀ j,j < 3->¬ K' (W.heap.size+j):=fun j hj h=>by
      rcases(HKB.out _ h).2.2 with h | h
      . have:=(HK.out _ h).1;omega
      . omega
    have HNK:Hid (¬ (K' W.heap.size\/G W.heap.size)/\¬ (K' (W.heap.size+1)\/G (W.heap.size+1))/\¬ (K' W1.heap.size\/G W1.heap.size)):=⟨fun h=>h.elim (hnk 0 (by omega)) (fun h=>by have:=HG.out _ h;omega),fun h=>h.elim (hnk 1 (by omega)) (fun h=>by have:=HG.out _ h;omega),fun h=>h.elim (fun h=>by have:=(HKB.out _ h).1;omega) (fun h=>by have:=HG.out _ h;omega)⟩
    have hcall:=Lib.hid (HSH.out (pre++ ys) K' G (x,k) W3 HJ3.out HSH3.out (by
      rw[List.append_assoc]
      refine HP.out _ (List.IsPrefix.trans ?_ hfl)
      rw[List.map_append,he]
      exact(List.prefix_append_right_inj _).2 ⟨_,rfl⟩) (by omega) (fun b hb=>⟨by have:=(HG.out b hb).1;omega,by have:=(HG.out b hb).2.1;omega,(HG.out b hb).2.2⟩))
    clear hj he hk' hm hsh hokx hks hG hfl hnk hm13 hm3 y2 hb2 hw2 z3
    have e0:W3.cell? ⟨W1.heap.size,0,none⟩=some (.string x.tag.s):=Z3.out.at_ 0
    have e1:W3.cell? ⟨W1.heap.size,1,none⟩=some (.slice x.tag.A x.tag.n x.tag.c):=Z3.out.at_ 1
    have e2:W3.cell? ⟨W1.heap.size,2,none⟩=some (.slice x.A x.n x.c):=Z3.out.at_ 2
    have e3:W3.cell? ⟨W1.heap.size,3,none⟩=some (.slice x.K x.kn x.kc):=Z3.out.at_ 3
    have e4:W3.cell? ⟨W1.heap.size,4,none⟩=some (.string x.text.s):=Z3.out.at_ 4
    have e5:W3.cell? ⟨W1.heap.size,5,none⟩=some (.slice x.text.A x.text.n x.text.c):=Z3.out.at_ 5
    have hnK:∀ j,j < 3->¬ K (W.heap.size+j):=fun j hj h=>by have:=(HK.out _ h).1;omega
    have V4:=Lib.hid (HM43.out.whole Y4.out (hnK 0 (by omega)))
    have V5:=Lib.hid (HM43.out.whole Y5.out (hnK 1 (by omega)))
    have g0:W3.cell? ⟨W.heap.size,0,none⟩=some (.int .i64 (k:Int)):=V4.out.at_ 0
    have g1:W3.cell? ⟨W.heap.size+1,0,none⟩=some (.func (.func F) #[] caps):=V5.out.at_ 0
    clear hnK
    gi_wp2_with fail
    rw[HE.out,Oper.uponIn_enter]
    refine⟨(fun hd=>by cases hd),CallsIn.inRound l (callsIn_wide.2 (hcall.out.mono ?_))⟩
    rintro e W5 ⟨rfl,K2,hj2,hk2,hm5⟩
    clear e0 e1 e2 e3 e4 e5 g0 g1 hcall
    have hz5:=hm5.size
    have Z5:=hm5.whole Z3.out HNK.out.2.2
    have e3:W5.cell? ⟨W1.heap.size,3,none⟩=some (.slice x.K x.kn x.kc):=Z5.at_ 3
    have g0:W5.cell? ⟨W.heap.size,0,none⟩=some (.int .i64 (k:Int)):=(hm5.whole V4.out HNK.out.1).at_ 0
    have g1:W5.cell? ⟨W.heap.size+1,0,none⟩=some (.func (.func F) #[] caps):=(hm5.whole V5.out HNK.out.2.1).at_ 0
    have hwk:IntKind.i64.wrap ((k:Int)+1)=(k:Int)+1:=IntWalk.i64_in _ (by omega)
    have hmem:x.ch∈sibs (chL ts):=HOKX.out.subset (by rw[zn,chL,chL];simp)
    have hlt:=zn7 hmem
    rw[TT.ch_kids,HQ.out]at hlt
    have hst5:Stays S W3 W5:=hm5.stays fun i _ hs h=>h.elim (fun h=>(HKB.out i h).2.1 hs) fun h=>by have:=HG.out i h;have:=HS.out i hs;omega
    have hk2':∀ b,K2 b->b < W5.heap.size/\¬ S b/\(K b\/w4.heap.size<=b):=fun b h=>by
      rcases hk2 b h with h | h | h
      . have:=HKB.out b h;exact⟨by omega,this.2⟩
      . have:=HG.out b h;exact⟨by omega,fun hs=>by have:=HS.out b hs;omega,.inr this.1⟩
      . exact⟨h.2,fun hs=>by have:=HS.out b hs;omega,.inr (by omega)⟩
    have hrec:Calls Tryz.prog 78 #[.slice x.K x.kn x.kc,.int .i64 ((k:Int)+1),.func (.func F) #[] caps] W5 (zfT J (pre++ ys++ [(x,k)]) (za7 (zp (chL x.kids)) (k+1)) K2 W5):=
      HIH.out (chL x.kids) hlt (k+1) x.K x.kn x.kc x.kids (pre++ ys++ [(x,k)]) K2 W5 rfl (by omega) (by omega) (HSH3.out.2.1.keep hst5) (HSH3.out.2.2.keep hst5) HSH3.out.1.kn hj2 (by omega) (fun b h=>⟨(hk2' b h).1,(hk2' b h).2.1⟩) (fun zs hzs=>by
        rw[List.append_assoc,List.append_assoc]
        refine HP.out _ (List.IsPrefix.trans ?_ HFL.out)
        rw[List.map_append,HE2.out,List.map_append,List.map_singleton,List.singleton_append]
        exact(List.prefix_append_right_inj _).2 ((List.prefix_cons_inj _).2 hzs))
    have HREC:=Lib.hid hrec
    have HK2:=Lib.hid hk2
    have HK2':=Lib.hid hk2'
    have HM5:=Lib.hid hm5
    clear hrec hk2 hk2' hm5 hj2 hst5 hlt hmem Z5
    gi_wp2_with fail
    refine CallsIn.inRound l (callsIn_wide.2 (HREC.out.mono ?_))
    rintro e W6 ⟨rfl,zs,K3,hzs,hj3,hk3,hm6⟩
    have hz6:=hm6.size
    have HFIN:Hid (∃ K3,zo0 J pre k K w4 (xs++ [x]) K3 W6/\(∀ b,K3 b->K' b\/G b\/(W1.heap.size<=b/\b < W6.heap.size))/\Moved (fun b=>K' b\/G b\/W1.heap.size<=b) W3 W6):=by
      have hg3:∀ b,K3 b->K' b\/G b\/(W1.heap.size<=b/\b < W6.heap.size):=fun b h=>by
        rcases hk3 b h with h | h
        . rcases HK2.out b h with h | h | h
          . exact .inl h
          . exact .inr (.inl h)
          . exact .inr (.inr (by omega))
        . exact .inr (.inr (by omega))
      have hm36:Moved (fun b=>K' b\/G b) W3 W6:=HM5.out.join hm6 fun i hi h=>by
        rcases HK2.out i h with h | h | h
        . exact .inl h
        . exact .inr h
        . omega
      refine⟨K3,⟨ys++ (x,k)::zs,?_,?_,?_,?_⟩,hg3,hm36.mono fun i _ h=>h.imp id .inl⟩
      . have e:pre++ (ys++ (x,k)::zs)=pre++ ys++ [(x,k)]++ zs:=by simp
        rw[e];exact hj3
      . rw[List.map_append,List.map_cons,HE2.out,hzs,zn,chL,chL,zfh,TT.ch_tag,TT.ch_text,TT.ch_kids]
        rfl
      . intro b h
        rcases hg3 b h with h | h | h
        . exact(HK'.out b h).imp id fun h=>⟨h.1,by omega⟩
        . have:=HG.out b h;exact .inr (by omega)
        . exact .inr (by omega)
      . exact HM43.out.join hm36 fun i hi h=>h.elim (fun h=>(HKB.out i h).2.2.elim id fun h=>by omega) fun h=>by have:=HG.out i h;omega
    clear hzs hj3 hk3 hm6 e3 g0 g1 HREC
    gi_wp2_with fail
    exact HFIN.out
  case done=>
    rintro D xs K' W1 hD hdx ⟨ys,hj,he,hk',hm⟩ hKD hdef
    have hnK:∀ j,j < 3->¬ K (W.heap.size+j):=fun j hj h=>by have:=(HK.out _ h).1;omega
    have hz4:w4.heap.size<=W1.heap.size:=hm.size
    have z6:=hm.whole Y6.out (hnK 2 (by omega))
    have c6:W1.cell? ⟨W.heap.size+1+1,0,none⟩=some (.bool false):=z6.at_ 0
    have f6:W1.frozen? ⟨W.heap.size+1+1,0,none⟩=false:=z6.free 0
    obtain⟨V,hV⟩:∃ V,(W1.setCell ⟨W.heap.size+1+1,0,none⟩ (.bool true)).putObj D (.deferred none)=V:=⟨_,rfl⟩
    have hmv:Moved (fun b=>b=W.heap.size+2\/b=D) W1 V:=by
      rw[<-hV]
      exact(Moved.setCell (Moved.refl _ _) (p:=⟨W.heap.size+1+1,0,none⟩) (.inl rfl) _).join (Moved.putObj _ _ _) fun _ _ h=>.inr h
    have hdl:D < W1.heap.size:=(Array.getElem?_eq_some_iff.1 hdef).1
    have hD2:(W1.setCell ⟨W.heap.size+1+1,0,none⟩ (.bool true)).heap[D]?=some (.deferred (some [])):=(Below.heap_setCell _ _ _ _ (by show D≠W.heap.size+1+1;omega)).trans hdef
    have zV:Whole V (W.heap.size+1+1) 4 #[.bool true]:=by
      rw[<-hV]
      exact(z6.put 0 (.bool true)).same (World.putObj_heap_other (by omega))
    have cV:V.cell? ⟨W.heap.size+1+1,0,none⟩=some (.bool true):=zV.at_ 0
    have HFIN:Hid (zfT J pre (za7 (zp Q) k) K W (.returned (.bool true)) V):=by
      refine⟨rfl,ys,K',?_,HH.out _ _ _ _ hj (by omega) (hmv.mono fun i _ h=>?_),?_,?_⟩
      . rw[he,show chL xs=sibs (chL ts)from hdx,HQ.out,zfg]
      . rcases h with rfl | rfl
        . refine⟨by omega,fun h=>?_⟩
          rcases hk' _ h with h | h
          . have:=(HK.out _ h).1;omega
          . omega
        . exact⟨by omega,hKD⟩
      . intro b h
        have:=hmv.size
        exact(hk' b h).imp id fun h=>⟨by omega,by omega⟩
      . exact((Moved.of_below HB4.out).join hm fun _ _ h=>h).join hmv fun i hi h=>by omega
    clear hj he hk' hm hmv hdx z6 zV
    gi_wp2_with fail
    refine zej rfl hD2 ?_
    rw[hV]
    refine⟨_,?_,HFIN.out⟩
    simp [results,Tryz.results78,go_sem, *]
attribute [local go_sem] Oper.semAt_some zbE zap
theorem zlQ(A:Option Addr)(n c F:Nat)(w:World) :
    Calls Tryz.prog 48 #[.slice A n c,.func (.func F) #[] #[]] w fun e w'=>e=.returned (.func (.func 77) #[] #[.pointer (some ⟨w.heap.size,0,none⟩),.pointer (some ⟨w.heap.size+1,0,none⟩)])/\
      w'.cell? ⟨w.heap.size,0,none⟩=some (.slice A n c)/\w'.cell? ⟨w.heap.size+1,0,none⟩=some (.func (.func F) #[] #[])/\w'.heap.size=w.heap.size+2/\Below w.heap.size w w':=by
  go_enter Tryz.func48,Tryz.ntmps48
  generalize hw3:(w.alloc (.cells #[.slice A n c] 27)).alloc (.cells #[.func (.func F) #[] #[]] 87)=w3
  have hz3:w3.heap.size=w.heap.size+2:=by rw[<-hw3];simp
  have hb3:Below w.heap.size w w3:=by rw[<-hw3];exact((Below.refl _ _).alloc (Nat.le_refl _) _).alloc (by simp) _
  have y4:Whole w3 w.heap.size 27 #[.slice A n c]:=by rw[<-hw3];exact(Whole.made w _ _).alloc _
  have y5:Whole w3 (w.heap.size+1) 87 #[.func (.func F) #[] #[]]:=by
    rw[<-hw3]
    have h:=Whole.made (w.alloc (.cells #[.slice A n c] 27)) 87 #[.func (.func F) #[] #[]]
    simp only[World.size_alloc]at h
    exact h
  have HZ:=Lib.hid hz3
  have HB:=Lib.hid hb3
  clear hz3 hb3
  go_wp2_with fail
  go_ret
  exact⟨rfl,y4.at_ 0,y5.at_ 0,HZ.out,HB.out⟩
theorem Held.up{α:Type}{n1 n2:Nat}{J:List α->(Nat->Prop)->World->Prop}(h:Held n1 J)(hn:n1<=n2):Held n2 J:=
  fun pre K W W' hj hz hm=>h pre K W W' hj (by omega) (hm.mono fun _ _ h=>⟨by omega,h.2⟩)
theorem Takes.up{α:Type}{P:Program}{encs:α->Array Value}{l n1 n2:Nat}{Sh:α->(Nat->Prop)->World->Prop}{okp:List α->Prop}{J:List α->(Nat->Prop)->World->Prop}(h:Takes P encs l n1 Sh okp J)(hn:n1<=n2):Takes P encs l n2 Sh okp J:=
  fun pre K G x W hj hsh hok hz hG=>h pre K G x W hj hsh hok (by omega) fun b hb=>⟨by have:=(hG b hb).1;omega,(hG b hb).2⟩
theorem zeu(p:TT->Bool)(pF:Found->Bool)(hp:∀ x,p x.1=pF (zcX x))(l:List (TT × Nat)):(l.filter fun y=>p y.1).map zcX=(l.map zcX).filter pF:=by
  induction l with
  | nil=>rfl
  | cons x l ih=>
    rw[List.map_cons]
    cases h:p x.1 with
    | true=>rw[List.filter_cons_of_pos (by exact h),List.filter_cons_of_pos (by rw[<-hp];exact h),List.map_cons,ih]
    | false=>rw[List.filter_cons_of_neg (by simp [h]),List.filter_cons_of_neg (by rw[<-hp];simp [h]),ih]
theorem zh1{F bl bw n c:Nat}{p:TT->Bool}{pF:Found->Bool}{S:Nat->Prop}{A:Option Addr}{ts:List TT}{W:World}(hW:Wants F p)(hp:∀ x,p x.1=pF (zcX x))(hcl:W.cell? ⟨bl,0,none⟩=some (.slice A n c))(hcw:W.cell? ⟨bw,0,none⟩=some (.func (.func F) #[] #[]))(hsw:S bw)
    (hl:LiesS S W A (ze ts)) (hok:AllS S W ts) (hn:ts.length=n) (hS:∀ b,S b->b < W.heap.size) (hbk:bkL (chL ts)<=1048576) :
    zoI Tryz.prog 77 #[.pointer (some ⟨bl,0,none⟩),.pointer (some ⟨bw,0,none⟩)] encF (fun x=>ShT S x.1) (fun pre=>pre.map zcX <+: (za7 (zp (chL ts)) 0).filter pF) (fun xs=>xs.map zcX=(za7 (zp (chL ts)) 0).filter pF) S W:=by
  intro l J K0 hH hT hJ hK0
  have HH:=Lib.hid hH
  have HT:=Lib.hid hT
  have HJ:=Lib.hid hJ
  have HK:=Lib.hid hK0
  have HL:=Lib.hid hl
  have HOK:=Lib.hid hok
  have HS:=Lib.hid hS
  have HN:=Lib.hid hn
  have HBK:=Lib.hid hbk
  have HCW:=Lib.hid hcw
  have HSW:=Lib.hid hsw
  clear hH hT hJ hK0 hl hok hS hn hbk hcw hsw
  go_enter Tryz.func77,Tryz.ntmps77
  generalize hw1:W.alloc (.cells #[.func (.yield l) #[] #[]] 114)=W1
  have y1:Whole W1 W.heap.size 114 #[.func (.yield l) #[] #[]]:=by rw[<-hw1];exact Whole.made _ _ _
  have hb1:Below W.heap.size W W1:=by rw[<-hw1];exact(Below.refl _ _).alloc (Nat.le_refl _) _
  have hz1:=y1.lt
  have hcl1:W1.cell? ⟨bl,0,none⟩=some (.slice A n c):=(hb1.cell (World.block_lt_of_cell? W _ hcl)).trans hcl
  have hbw:bw < W.heap.size:=HS.out _ HSW.out
  have hst:Stays S W W1:=Stays.of hb1
  have hsh:=znw (okq:=fun pre=>pre.map zcX <+: za7 (zp (chL ts)) 0) hW (Takes.up HT.out (n2:=W1.heap.size) (by omega)) (Held.up HH.out (by omega)) (fun b hb=>by have:=HS.out b hb;omega) (bw:=bw) (bY:=W.heap.size) (by omega) hz1 (fun pre x h hx=>by
    show((pre.filter fun y=>p y.1)++ [x]).map zcX <+: _
    have e:(pre.filter fun y=>p y.1)++ [x]=(pre++ [x]).filter fun y=>p y.1:=by rw[List.filter_append,List.filter_cons_of_pos (by exact hx),List.filter_nil]
    rw[e,zeu p pF hp]
    exact List.IsPrefix.filter _ h)
  have hh:Held W1.heap.size (zlM F l bw W.heap.size p J):=by
    rintro pre K V V' ⟨h1,h2,h3,h4,h5⟩ hz hm
    have hlt4:=World.block_lt_of_cell? V _ h4
    have hlt5:=World.block_lt_of_cell? V _ h5
    refine⟨HH.out _ _ _ _ h1 (by omega) (hm.mono fun i _ h=>⟨by omega,h.2⟩),h2,h3,(hm.cell hlt4 fun h=>?_).trans h4,(hm.cell hlt5 fun h=>?_).trans h5⟩
    . have h9:W1.heap.size<=bw:=h.1;omega
    . have h9:W1.heap.size<=W.heap.size:=h.1;omega
  have hdown:Calls Tryz.prog 78 #[.slice A n c,.int .i64 0,.func (.func 79) #[] #[.pointer (some ⟨bw,0,none⟩),.pointer (some ⟨W.heap.size,0,none⟩)]] W1 (zfT (zlM F l bw W.heap.size p J) [] (za7 (zp (chL ts)) 0) K0 W1):=
    znA (fun _ _=>rfl) hsh hh (fun b hb=>by have:=HS.out b hb;omega) (chL ts) 0 A n c ts [] K0 W1 rfl HBK.out (by have:=HBK.out;omega) (HL.out.keep hst) (HOK.out.keep hst) HN.out
      ⟨HH.out _ _ _ _ HJ.out (Nat.le_refl _) (Moved.of_below hb1),fun h=>(HK.out _ h).2 HSW.out,fun h=>by have:=(HK.out _ h).1;omega,(hb1.cell (p:=⟨bw,0,none⟩) hbw).trans HCW.out,y1.at_ 0⟩ (Nat.le_refl _)
      (fun b hb=>⟨by have:=(HK.out b hb).1;omega,(HK.out b hb).2⟩) (fun ys h=>h)
  have HD:=Lib.hid hdown
  clear hdown hsh hh hst y1 hb1 hcl hbw hz1
  go_wp2_with fail
  refine HD.out.mono ?_
  rintro e W2 ⟨rfl,ys,K',hys,⟨hj,_⟩,_,_⟩
  have HFIN:Hid (∃ xs K',xs.map zcX=(za7 (zp (chL ts)) 0).filter pF/\J xs K' W2):=⟨ys.filter fun y=>p y.1,K',by rw[zeu p pF hp,hys],hj⟩
  clear hys hj HD
  go_wp2_with fail
  go_end0
  exact⟨⟨_,rfl⟩,HFIN.out⟩
attribute [local go_sem] Oper.semAt_some zbE zap
def VarI{α:Type}(b:Nat)(t:TypeId)(f:List α->Value)(w:World)(pre:List α)(K:Nat->Prop)(W:World):Prop:=
  K=(fun i=>i=b)/\Whole W b t #[f pre]/\Moved (fun i=>i=b) w W
theorem zlR{α:Type}{b:Nat}{t:TypeId}{f:List α->Value}{w:World}:Held w.heap.size (VarI (α:=α) b t f w):=by
  rintro pre K W W' ⟨rfl,hw,hm⟩ hz hmv
  exact⟨rfl,hmv.whole hw (fun h=>h.2 rfl),hm.join hmv fun i hi h=>by have:=h.1;omega⟩
theorem zfi(Q:List PT)(k:Nat):((za7 (zp Q) k).filter fun _=>true).length=wtL (zp Q):=by
  rw[List.filter_eq_self.2 (fun _ _=>rfl),zoy]
theorem zfU(Q:List PT):wtL (zp Q)<=bkL Q:=Nat.le_trans (bk_wt _) (zbY _)
theorem znB{S:Nat->Prop}(A:Option Addr)(n c:Nat)(ts:List TT)(w:World)(hl:LiesS S w A (ze ts))(hok:AllS S w ts)(hn:ts.length=n)(hS:∀ b,S b->b < w.heap.size)(hbk:bkL (chL ts)<=1048576) :
    Calls Tryz.prog 15 #[.slice A n c] w fun e w'=>e=.returned (.int .i64 (wtL (zp (chL ts)):Int))/\Below w.heap.size w w':=by
  have HL:=Lib.hid hl
  have HOK:=Lib.hid hok
  have HN:=Lib.hid hn
  have HS:=Lib.hid hS
  have HBK:=Lib.hid hbk
  clear hl hok hn hS hbk
  refine callsIn_wide.1 (callsIn_of_wp_marks (n:=1) Tryz.func15 rfl trivial ?_ rfl)
  simp only[Tryz.ntmps15,List.size_toArray,List.length_cons,List.length_nil,Nat.reduceAdd,Nat.reduceSub,Array.replicate_succ,Array.replicate_zero,List.push_toArray,List.append_toArray,List.nil_append,List.cons_append]
  gi_wp2_with fail
  generalize hw3:w.alloc (.cells #[.int .i64 0] 3)=w3
  have hz3:w3.heap.size=w.heap.size+1:=by rw[<-hw3];simp
  have hb3:Below w.heap.size w w3:=by rw[<-hw3];exact(Below.refl _ _).alloc (Nat.le_refl _) _
  have y3:Whole w3 w.heap.size 3 #[.int .i64 0]:=by rw[<-hw3];exact Whole.made w _ _
  have HZ3:=Lib.hid hz3
  refine callsIn_wide.2 ((zlQ A n c 49 w3).mono ?_)
  rintro e w4 ⟨rfl,hcl,hcw,hz4,hb4⟩
  have HY:=Lib.hid (y3.below hb4 y3.lt)
  have HB4:Hid (Below w.heap.size w w4):=zf hb3 (Nat.le_refl _) hb4
  have hst4:Stays S w w4:=Stays.of HB4.out
  rw[hz3]at hcl hcw hz4
  have HZ4:Hid (w4.heap.size=w.heap.size+3):=hz4
  have HCL:=Lib.hid hcl
  have HCW:=Lib.hid hcw
  have HL4:=Lib.hid ((HL.out.keep hst4).mono (S':=fun b=>S b\/b=w.heap.size+2) fun _ h _=>.inl h)
  have HO4:=Lib.hid ((HOK.out.keep hst4).mono (S':=fun b=>S b\/b=w.heap.size+2) fun _ h _=>.inl h)
  clear hw3 hb3 hb4 y3 hcl hcw hst4 hz4
  gi_wp2_with fail
  have hz4:=HZ4.out
  refine zei (gf:=77) (lb:=#[.pointer (some ⟨w.heap.size+1,0,none⟩),.pointer (some ⟨w.heap.size+2,0,none⟩)]) (encs:=encF) (Sh:=fun x=>ShT (fun b=>S b\/b=w.heap.size+2) x.1) (okp:=fun pre=>pre.map zcX <+: (za7 (zp (chL ts)) 0).filter fun _=>true) (done:=fun xs=>xs.map zcX=(za7 (zp (chL ts)) 0).filter fun _=>true) (S:=fun b=>S b\/b=w.heap.size+2)
    rfl (fun _ _=>rfl) ?gives (fun _=>rfl) (VarI w.heap.size 3 (fun pre:List (TT × Nat)=>.int .i64 (pre.length:Int)) w4) (fun b=>b=w.heap.size) (fun b hb=>?hS) (fun b hb=>?hK0) zlR ?h0 ?round ?done
  case gives=>
    intro W' hb
    have hst:Stays (fun b=>S b\/b=w.heap.size+2) w4 W':=Stays.of hb
    exact zh1 zkN (fun _=>rfl) ((hb.cell (p:=⟨w.heap.size+1,0,none⟩) (by show w.heap.size+1 < _;omega)).trans HCL.out) ((hb.cell (p:=⟨w.heap.size+2,0,none⟩) (by show w.heap.size+2 < _;omega)).trans HCW.out) (.inr rfl) (HL4.out.keep hst) (HO4.out.keep hst) HN.out
      (fun b h=>by have:=hb.size;rcases h with h | h;have:=HS.out b h;omega;omega) HBK.out
  case hS=>rcases hb with h | h;have:=HS.out b h;omega;omega
  case hK0=>subst hb;exact⟨by omega,fun h=>by rcases h with h | h;have:=HS.out _ h;omega;omega⟩
  case h0=>exact⟨rfl,HY.out,Moved.refl _ _⟩
  case round=>
    rintro l pre K G x W1 ⟨rfl,hy,hm⟩ hsh hokx hl1 hl2 hkl hgl hks hG
    have hlen:pre.length+1<=1048576:=by
      have h1:=hokx.length_le
      rw[zfi,List.length_map,List.length_append,List.length_singleton]at h1
      have:=zfU (chL ts)
      have:=HBK.out
      omega
    have HM:=Lib.hid hm
    have HY1:=Lib.hid hy
    clear hm hy hokx hsh hks hG
    unfold encF
    gi_wp2_with fail
    refine⟨Below.refl _ _,fun W2 hm2=>?_⟩
    have y2:=hm2.whole HY1.out (fun h=>by omega)
    have hzm:=hm2.size
    have c2:W2.cell? ⟨w.heap.size,0,none⟩=some (.int .i64 (pre.length:Int)):=y2.at_ 0
    have f2:W2.frozen? ⟨w.heap.size,0,none⟩=false:=y2.free 0
    have hwk:IntKind.i64.wrap ((pre.length:Int)+1)=(pre.length:Int)+1:=IntWalk.i64_in _ (by omega)
    have HFIN:Hid (∃ K',VarI w.heap.size 3 (fun pre:List (TT × Nat)=>.int .i64 (pre.length:Int)) w4 (pre++ [x]) K' (W2.setCell ⟨w.heap.size,0,none⟩ (.int .i64 ((pre.length:Int)+1)))/\(∀ b,K' b->b=w.heap.size\/G b\/(W1.heap.size<=b/\b < W2.heap.size))/\
        Moved (fun b=>b=w.heap.size\/G b\/W1.heap.size<=b) W2 (W2.setCell ⟨w.heap.size,0,none⟩ (.int .i64 ((pre.length:Int)+1)))):=by
      have hmv:=Moved.setCell (S:=fun b=>b=w.heap.size) (Moved.refl _ W2) (p:=⟨w.heap.size,0,none⟩) rfl (.int .i64 ((pre.length:Int)+1))
      refine⟨_,⟨rfl,?_,(HM.out.join hm2 fun i hi h=>by omega).join hmv fun _ _ h=>h⟩,fun b h=>.inl h,hmv.mono fun _ _ h=>.inl h⟩
      have h:=y2.put 0 (.int .i64 ((pre.length:Int)+1))
      show Whole _ _ _ #[.int .i64 (((pre++ [x]).length:Nat):Int)]
      rw[List.length_append,List.length_singleton]
      exact h
    clear y2 hm2 hlen
    gi_wp2_with fail
    exact HFIN.out
  case done=>
    rintro D xs K W1 hD hdx ⟨rfl,hy,hm⟩ hKD hdef
    have c1:W1.cell? ⟨w.heap.size,0,none⟩=some (.int .i64 (xs.length:Int)):=hy.at_ 0
    have HFIN:Hid ((xs.length:Int)=(wtL (zp (chL ts)):Int)/\Below w.heap.size w (W1.putObj D (.deferred none))):=by
      refine⟨?_,?_⟩
      . have h1:=congrArg List.length hdx
        rw[zfi,List.length_map]at h1
        rw[h1]
      . refine Moved.below (S:=fun b=>w.heap.size<=b) ?_ (Nat.le_refl _) (fun k hk h=>by omega)
        exact((Moved.of_below HB4.out).join hm fun i hi h=>by omega).join (Moved.putObj _ _ _) fun i hi h=>by omega
    have HD:=Lib.hid hdef
    clear hy hm hdx hKD hdef
    gi_wp2_with fail
    refine zej rfl HD.out ?_
    exact⟨_,results_tmp rfl _ _ _,(by rw[HFIN.out.1];rfl),HFIN.out.2⟩
end Go.Proofs.YtddgabjhligeeaaGreat.mk
