import Derived.Test.YtddgabjhligeeaaGreatJoinT
import Derived.Maps.OwnOps
import Derived.Maps.Views
set_option maxHeartbeats 2000000
set_option maxRecDepth 100000
namespace Go.Proofs.YtddgabjhligeeaaGreat.mk
open Go.RowKit Go.Maps
theorem zc5:Keyed Tryz.prog 9:=string_keyed Tryz.underlying9
theorem zkp(w:World):(zeroValue 3).run Tryz.prog w=.ok (.int .i64 0) w:=by kernel_rfl
def MapF(w:World)(b n:Nat)(f:List UInt8->Int):Prop:=
  ∃ D:DataW Unit,w.ownsMap Tryz.prog 9 (plainElem Tryz.prog 3) b n D/\∀ s:List UInt8,D.atKey (.string s) (.lit (.int .i64 0))=.lit (.int .i64 (f s))
def upd(f:List UInt8->Int)(s:List UInt8)(x:Int):List UInt8->Int:=fun t=>if t=s then x else f t
theorem MapF.same{w w':World}{b n:Nat}{f:List UInt8->Int}(h:MapF w b n f)(e:w'.heap[b]?=w.heap[b]?):MapF w' b n f:=by
  obtain⟨D,⟨es,clock,hb,r⟩,h2⟩:=h
  exact⟨D,⟨es,clock,e.trans hb,r⟩,h2⟩
theorem MapF.lt{w:World}{b n:Nat}{f:List UInt8->Int}(h:MapF w b n f):b < w.heap.size:=by obtain⟨D,h1,_⟩:=h;exact h1.lt
theorem MapF.below{w w':World}{b n:Nat}{f:List UInt8->Int}(h:MapF w b n f)(hb:Below w.heap.size w w'):MapF w' b n f:=h.same (hb.block b h.lt)
theorem MapF.made(w:World):MapF (w.alloc (.map #[] 0)) w.heap.size 0 (fun _=>0):=⟨_,World.ownsMap_made w _ _ _,fun _=>rfl⟩
theorem MapF.put{w w':World}{b n m:Nat}{f:List UInt8->Int}{D:DataW Unit}{s:List UInt8}{x:Int}(h:w.ownsMap Tryz.prog 9 (plainElem Tryz.prog 3) b n D)(h2:∀ s:List UInt8,D.atKey (.string s) (.lit (.int .i64 0))=.lit (.int .i64 (f s)))
    (h3:w'.ownsMap Tryz.prog 9 (plainElem Tryz.prog 3) b m (D.put (.string s) (.lit (.int .i64 x)))):MapF w' b m (upd f s x):=by
  refine⟨_,h3,fun t=>?_⟩
  have hD:IsMap D:=by obtain⟨es,clock,_,_,_,e⟩:=h;exact⟨_,e⟩
  unfold upd
  by_cases ht:t=s
  . subst ht
    rw[if_pos rfl]
    exact atKey_put_same hD (by trivial) _ _
  . rw[if_neg ht,atKey_put_other (by intro e;injection e with e;exact ht e)]
    exact h2 t
def cntN(L:List PA)(k:Nat)(nm:List UInt8):Int:=(((L.take k).filter fun p=>nmB p == nm).length:Nat)
theorem zoB{L:List PA}{k:Nat}{x:PA}(h:L[k]?=some x):cntN L (k+1)=upd (cntN L k) (nmB x) (cntN L k (nmB x)+1):=by
  funext nm
  unfold upd cntN
  rw[zC h,List.filter_append,List.length_append]
  by_cases hn:nm=nmB x
  . subst hn
    rw[if_pos rfl]
    simp
  . rw[if_neg hn]
    have:(nmB x == nm)=false:=beq_eq_false_iff_ne.2 (Ne.symm hn)
    simp [this]
theorem zte(L:List PA)(k:Nat)(nm:List UInt8):0<=cntN L k nm/\cntN L k nm<=k:=by
  unfold cntN
  have h1:=List.length_filter_le (fun p=>nmB p == nm) (L.take k)
  have h2:=List.length_take_le k L
  omega
theorem zoC{L:List PA}{k:Nat}{x:PA}(h:L[k]?=some x):(cntN L k (nmB x) == 0)=zbm L k:=by
  have e:zbm L k=(zP L (nmB x) == k):=zb7 (f:=fun p=>zP L (nmB p) == k) h
  rw[e,Bool.eq_iff_iff,beq_iff_eq,beq_iff_eq]
  unfold cntN
  constructor
  . intro h0
    have h0:((L.take k).filter fun p=>nmB p == nmB x).length=0:=by omega
    have h1:=List.eq_nil_of_length_eq_zero h0
    rw[List.filter_eq_nil_iff]at h1
    refine zdT h rfl fun j q hj hq hn=>?_
    have hm:q∈L.take k:=List.mem_of_getElem? (i:=j) (by rw[List.getElem?_take,if_pos hj];exact hq)
    exact h1 q hm (beq_iff_eq.2 hn)
  . intro h0
    have:(L.take k).filter (fun p=>nmB p == nmB x)=[]:=by
      rw[List.filter_eq_nil_iff]
      intro q hq hn
      obtain⟨j,hj⟩:=List.mem_iff_getElem?.1 hq
      rw[List.getElem?_take]at hj
      split at hj
      . exact zc1 (by omega) hj (beq_iff_eq.1 hn)
      . cases hj
    rw[this]
    rfl
def whF(L:List PA):Nat->List UInt8->Int
  | 0=>fun _=>0
  | k+1=>match L[k]? with | some x=>upd (whF L k) (nmB x) ((k:Int)+1) | none=>whF L k
theorem zh7{L:List PA}{k:Nat}{x:PA}(h:L[k]?=some x):whF L (k+1)=upd (whF L k) (nmB x) ((k:Int)+1):=by
  show(match L[k]? with | some x=>upd (whF L k) (nmB x) ((k:Int)+1) | none=>whF L k)=_
  rw[h]
theorem zsD(L:List PA)(k:Nat)(nm:List UInt8):0<=whF L k nm/\whF L k nm<=k:=by
  induction k with
  | zero=>exact⟨Int.le_refl _,Int.le_refl _⟩
  | succ k ih=>
    cases hx:L[k]? with
    | some x=>
      rw[zh7 hx]
      unfold upd
      split<;>omega
    | none=>
      have e:whF L (k+1)=whF L k:=by
        show(match L[k]? with | some x=>upd (whF L k) (nmB x) ((k:Int)+1) | none=>whF L k)=_
        rw[hx]
      rw[e]
      omega
def OneEach(L:List PA):Prop:=L.Pairwise fun a b=>nmB a≠nmB b
theorem OneEach.at_{L:List PA}(h:OneEach L){i j:Nat}{x y:PA}(hi:i < j)(hx:L[i]?=some x)(hy:L[j]?=some y):nmB x≠nmB y:=by
  obtain⟨h1,e1⟩:=List.getElem?_eq_some_iff.1 hx
  obtain⟨h2,e2⟩:=List.getElem?_eq_some_iff.1 hy
  rw[<-e1,<-e2]
  exact List.pairwise_iff_getElem.1 h i j h1 h2 hi
theorem zhb(L:List PA):OneEach (zH L):=by
  unfold zH sel
  suffices H:∀ k,k<=L.length->OneEach (zaB (zbm L) L k)from H _ (Nat.le_refl _)
  intro k
  induction k with
  | zero=>intro _;exact List.Pairwise.nil
  | succ k ih=>
    intro hk
    have hx:L[k]?=some (L[k]'(by omega)):=List.getElem?_eq_getElem _
    generalize L[k]'(by omega)=x at hx
    rw[zbq hx]
    unfold OneEach
    rw[List.pairwise_append]
    refine⟨ih (by omega),by split<;>simp,fun a ha b hb=>?_⟩
    split at hb
    . rename_i hp
      simp at hb
      subst hb
      obtain⟨j,hj,hpj,hxj⟩:=zdV ha
      have e1:zbm L j=(zP L (nmB a) == j):=zb7 (f:=fun p=>zP L (nmB p) == j) hxj
      have e2:zbm L k=(zP L (nmB b) == k):=zb7 (f:=fun p=>zP L (nmB p) == k) hx
      rw[e1,beq_iff_eq]at hpj
      rw[e2,beq_iff_eq]at hp
      intro e
      rw[e]at hpj
      omega
    . cases hb
theorem zrd{L:List PA}(h:OneEach L)(k:Nat)(hk:k<=L.length)(nm:List UInt8):whF L k nm=if zP L nm < k then (zP L nm:Int)+1 else 0:=by
  induction k with
  | zero=>rfl
  | succ k ih=>
    have hx:L[k]?=some (L[k]'(by omega)):=List.getElem?_eq_getElem _
    generalize L[k]'(by omega)=x at hx
    rw[zh7 hx]
    unfold upd
    by_cases hn:nm=nmB x
    . subst hn
      rw[if_pos rfl]
      have:zP L (nmB x)=k:=zdT hx rfl fun j q hj hq=>h.at_ hj hq hx
      rw[this,if_pos (Nat.lt_succ_self _)]
    . rw[if_neg hn,ih (by omega)]
      by_cases h1:zP L nm < k
      . rw[if_pos h1,if_pos (show zP L nm < k+1 by omega)]
      . rw[if_neg h1,if_neg]
        intro h2
        have h3:zP L nm=k:=by omega
        obtain⟨q,hq,hqn⟩:=zbM (L:=L) (nm:=nm) (by omega)
        rw[h3,hx]at hq
        injection hq with hq
        rw[hq]at hn
        exact hn hqn.symm
theorem zoD{L:List PA}(h:OneEach L)(nm:List UInt8):whF L L.length nm - 1=plI L nm:=by
  rw[zrd h _ (Nat.le_refl _)]
  unfold plI
  split<;>omega
theorem zoE(w:World) :
    Calls Tryz.prog 161 #[] w fun e w'=>e=.returned (.func (.func 178) #[] #[.pointer (some ⟨w.heap.size+1,0,none⟩)])/\Whole w' (w.heap.size+1) 56 #[.map (some w.heap.size)]/\MapF w' w.heap.size 0 (fun _=>0)/\Below w.heap.size w w':=by
  have hmm:=@run_makeMap Tryz.prog
  go_enter Tryz.func161,Tryz.ntmps161
  go_wp2
  go_ret
  refine⟨rfl,?_,(MapF.made w).below ((Below.refl _ _).alloc (Nat.le_refl _) _),((Below.refl _ _).alloc (Nat.le_refl _) _).alloc (by simp) _⟩
  have h:=Whole.made (w.alloc (.map #[] 0)) 56 #[.map (some w.heap.size)]
  simp only[World.size_alloc]at h
  exact h
theorem zmF(a:AT)(g b n:Nat)(f:List UInt8->Int)(w:World)(hc:w.cell? ⟨g,0,none⟩=some (.map (some b)))(hgb:g≠b)(hM:MapF w b n f)(hf:0<=f a.nm.bs/\f a.nm.bs<=4294967296)(hn:n<=4294967296)(ha:a.nm.s.size<=4294967296) :
    Calls Tryz.prog 178 #[.agg #[.string a.nm.s,.slice a.nm.A a.nm.n a.nm.c,.string a.vl.s,.slice a.vl.A a.vl.n a.vl.c],.pointer (some ⟨g,0,none⟩)] w fun e w'=>e=.returned (.bool (f a.nm.bs == 0))/\MapF w' b (n+1) (upd f a.nm.bs (f a.nm.bs+1))/\Moved (·=b) w w':=by
  have hg:=World.block_lt_of_cell? w _ hc
  have hkey:keyOf Tryz.prog 9 (.string a.nm.s)=some (.string a.nm.bs):=WideMaps.keyOf_string_mk Tryz.underlying9 (by simp only[maxLen];omega)
  have hb0:Below w.heap.size w (w.alloc (.cells #[.string a.nm.s,.slice a.nm.A a.nm.n a.nm.c,.string a.vl.s,.slice a.vl.A a.vl.n a.vl.c] 93)):=(Below.refl _ _).alloc (Nat.le_refl _) _
  have y0:=Whole.made w 93 #[.string a.nm.s,.slice a.nm.A a.nm.n a.nm.c,.string a.vl.s,.slice a.vl.A a.vl.n a.vl.c]
  have c1:=(hb0.cell hg).trans hc
  have hM0:=hM.below hb0
  have hbl:=hM.lt
  obtain⟨D,hown,hD⟩:=hM0
  generalize hs:a.nm.bs=s at *
  obtain⟨x,hx⟩:∃ x,f s=x:=⟨_,rfl⟩
  have HX:=Lib.hid hx
  rw[hx]at hf ⊢
  clear hx hc
  have K2:∀ w1,(w.alloc (.cells #[.string a.nm.s,.slice a.nm.A a.nm.n a.nm.c,.string a.vl.s,.slice a.vl.A a.vl.n a.vl.c] 93)).grownBy w1 (some b)->w1.cell? ⟨g,0,none⟩=(w.alloc (.cells #[.string a.nm.s,.slice a.nm.A a.nm.n a.nm.c,.string a.vl.s,.slice a.vl.A a.vl.n a.vl.c] 93)).cell? ⟨g,0,none⟩:=by
    intro w1 h
    unfold World.cell?
    rw[h.block g (Nat.lt_of_lt_of_le hg hb0.size) (by intro e;injection e with e;exact hgb e)]
  go_enter Tryz.func178,Tryz.ntmps178
  go_wp2_with (first
    | (at_lookup;refine wpList_lookup_own_int _ rfl _ _ 56 rfl 9 3 .i64 zc5 Tryz.underlying56 Tryz.underlying3 (zkp _) b _ _ rfl hown _ _ rfl hkey ?_;intro c hat hwc;have hce:=(hD s).symm.trans hat;injection hce with hce;injection hce with _ hce;rw[HX.out]at hce;subst hce;clear hat)
    | (at_mapUpdate;refine wpList_mapUpdate_own _ rfl _ _ _ 56 rfl 9 3 zc5 Tryz.underlying56 _ b n _ rfl hown (by simp only[maxLen];omega) _ _ _ rfl rfl hkey _ [] (plainElem_int Tryz.underlying3 (WalkArith.wf_i64 (by omega))) ?_;intro w1 hown1 hgrow1;have hz1:=hgrow1.size;have y1:=y0.grown hgrow1 (by intro e;injection e with e;omega);have d0:=y1.at_ 0;have d1:=(K2 w1 hgrow1).trans c1;have hM1:=MapF.put hown hD hown1;clear hown;obtain⟨D1,hown2,hD1⟩:=hM1)
    | (at_lookup;refine wpList_lookup_own_int _ rfl _ _ 56 rfl 9 3 .i64 zc5 Tryz.underlying56 Tryz.underlying3 (zkp _) b _ _ rfl hown2 _ _ rfl hkey ?_;intro c hat hwc;have hce:=(hD1 s).symm.trans hat;injection hce with hce;injection hce with _ hce;unfold upd at hce;rw[if_pos rfl]at hce;subst hce;clear hat)
    | fail)
  go_ret
  refine⟨zB ?_,⟨D1,hown2,by rw[HX.out]at *;exact hD1⟩,?_⟩
  . rw[Bool.eq_iff_iff];simp;omega
  . exact⟨hgrow1.os,hgrow1.tape,hgrow1.output,Nat.le_trans hb0.size hz1,fun k hk hs=>(hgrow1.block k (by have:=hb0.size;omega) (by intro e;injection e with e;exact hs e)).trans (hb0.block k hk)⟩
theorem zjd{w:World}{b n g:Nat}{f:List UInt8->Int}{t:TypeId}{cs:Array Value}(hM:MapF w b n f)(hW:Whole w g t cs):g≠b:=by
  rintro rfl
  obtain⟨D,⟨es,clock,hb,_⟩,_⟩:=hM
  unfold Whole at hW
  rw[hb]at hW
  cases hW
def zhc(L:List PA)(n b:Nat)(w0:World)(i:Value)(wr:World):Prop:=
  ∃ k:Nat,k<=n/\i=.int .i64 (k:Int)/\MapF wr b k (whF L k)/\Moved (·=b) w0 wr
theorem zhd(A:Option Addr)(n c:Nat)(ts:List AT)(w:World)(hl:Lies w w.heap.size A (zm ts))(hok:AllOk w w.heap.size ts)(hn:ts.length=n)(hn2:n<=4294967296) :
    Calls Tryz.prog 165 #[.slice A n c] w fun e w'=>e=.returned (.func (.func 181) #[] #[.pointer (some ⟨w.heap.size+1,0,none⟩)])/\Whole w' (w.heap.size+1) 56 #[.map (some w.heap.size)]/\MapF w' w.heap.size n (whF (ts.map AT.ch) n)/\Below w.heap.size w w':=by
  have hmm:=@run_makeMap Tryz.prog
  have HN:=Lib.hid hn
  have HL:=Lib.hid hl
  have HOK:=Lib.hid hok
  clear hn hl hok
  go_enter Tryz.func165,Tryz.ntmps165
  go_wp2_with fail
  generalize hw0:(w.alloc (.map #[] 0)).alloc (.cells #[.map (some w.heap.size)] 56)=w0
  have y0:Whole w0 (w.heap.size+1) 56 #[.map (some w.heap.size)]:=by
    rw[<-hw0]
    have h:=Whole.made (w.alloc (.map #[] 0)) 56 #[.map (some w.heap.size)]
    simp only[World.size_alloc]at h
    exact h
  have hM0:MapF w0 w.heap.size 0 (fun _=>0):=by rw[<-hw0];exact(MapF.made w).below ((Below.refl _ _).alloc (Nat.le_refl _) _)
  have hb0:Below w.heap.size w w0:=by rw[<-hw0];exact((Below.refl _ _).alloc (Nat.le_refl _) _).alloc (by simp) _
  have hz0:w0.heap.size=w.heap.size+2:=by rw[<-hw0];simp
  clear hw0 hmm
  go_loopw [9] (zhc (ts.map AT.ch) n w.heap.size w0) (fun i _=>n - (intOf i).toNat)
  case atStart=>exact⟨0,Nat.zero_le _,rfl,hM0,Moved.refl _ _⟩
  case round=>
    obtain⟨k,hk,rfl,hM,hm⟩:=hrel
    have hzr:=hm.size
    have hbr:Below w.heap.size w wr:=hb0.trans (hm.below (by omega) (fun x hx e=>by omega))
    have yr:=hm.whole y0 (by omega)
    by_cases hlt:k < n
    . obtain⟨ad,t,rfl,hbA,d0,d1,d2,d3,HR⟩:=(HL.out.below hbr).att (k:=k) (by rw[HN.out];exact hlt)
      have hk0:(0:Int)<=(k:Int):=Int.natCast_nonneg _
      have hk1:(k:Int) < (n:Int):=by omega
      have HRC:=Lib.hid (zd4 HR.out)
      have hts:=((HOK.out.get HR.out).1.2.2.2)
      have hkey:keyOf Tryz.prog 9 (.string t.nm.s)=some (.string t.nm.s.data.toList):=WideMaps.keyOf_string_mk Tryz.underlying9 (by simp only[maxLen];omega)
      have hb4:Below wr.heap.size wr (wr.alloc (.cells #[.string t.nm.s,.slice t.nm.A t.nm.n t.nm.c,.string t.vl.s,.slice t.vl.A t.vl.n t.vl.c] 93)):=(Below.refl _ _).alloc (Nat.le_refl _) _
      have e0:(wr.alloc (.cells #[.string t.nm.s,.slice t.nm.A t.nm.n t.nm.c,.string t.vl.s,.slice t.vl.A t.vl.n t.vl.c] 93)).cell? ⟨w.heap.size+1,0,none⟩=some (.map (some w.heap.size)):=(yr.below hb4 yr.lt).at_ 0
      have HM4:=Lib.hid (hM.below hb4)
      obtain⟨D,hown,hD⟩:=HM4.out
      clear hM
      go_wp2_with (first
        | (at_mapUpdate;refine wpList_mapUpdate_own _ rfl _ _ _ 56 rfl 9 3 zc5 Tryz.underlying56 _ w.heap.size k _ rfl hown (by simp only[maxLen];omega) _ _ _ rfl rfl hkey _ [] (plainElem_int Tryz.underlying3 (WalkArith.wf_i64 (by omega))) ?_;intro w1 hown1 hgrow1)
        | fail)
      have HREL:Hid (zhc (ts.map AT.ch) n w.heap.size w0 (.int .i64 ((k:Int)+1)) w1):=by
        refine⟨k+1,by omega,by simp,?_,hm.trans ?_⟩
        . have h:=MapF.put hown hD hown1
          rw[zh7 HRC.out,AT.nmB]
          exact h
        . exact⟨hgrow1.os,hgrow1.tape,hgrow1.output,Nat.le_trans hb4.size hgrow1.size,fun j hj hs=>(hgrow1.block j (by have:=hb4.size;omega) (by intro e;injection e with e;exact hs e)).trans (hb4.block j hj)⟩
      clear hown1 hgrow1 hown hD hm
      go_roundw
      case rel=>exact HREL.out
      case measure=>simp [intOf];omega
    . obtain rfl:k=n:=by omega
      go_wp2_with fail
      go_ret
      exact⟨rfl,yr,hM,hbr⟩
theorem zga(s:ByteArray)(g b n:Nat)(f:List UInt8->Int)(w:World)(hc:w.cell? ⟨g,0,none⟩=some (.map (some b)))(hM:MapF w b n f)(hf:0<=f s.data.toList/\f s.data.toList<=4294967296)(hs:s.size<=4294967296) :
    Calls Tryz.prog 181 #[.string s,.pointer (some ⟨g,0,none⟩)] w fun e w'=>e=.returned (.int .i64 (f s.data.toList - 1))/\w=w':=by
  have hkey:keyOf Tryz.prog 9 (.string s)=some (.string s.data.toList):=WideMaps.keyOf_string_mk Tryz.underlying9 (by simp only[maxLen];omega)
  obtain⟨D,hown,hD⟩:=hM
  obtain⟨x,hx⟩:∃ x,f s.data.toList=x:=⟨_,rfl⟩
  have HX:=Lib.hid hx
  rw[hx]at hf ⊢
  clear hx
  go_enter Tryz.func181,Tryz.ntmps181
  go_wp2_with (first
    | (at_lookup;refine wpList_lookup_own_int _ rfl _ _ 56 rfl 9 3 .i64 zc5 Tryz.underlying56 Tryz.underlying3 (zkp _) b _ _ rfl hown _ _ rfl hkey ?_;intro c hat hwc;have hce:=(hD _).symm.trans hat;injection hce with hce;injection hce with _ hce;rw[HX.out]at hce;subst hce;clear hat)
    | fail)
  go_ret
  exact⟨rfl,rfl⟩
theorem ch_ext{a b:LT}:a.ch=b.ch↔a.bs=b.bs/\a.os=b.os:=by
  constructor
  . intro h
    exact⟨by rw[<-LT.ch_fst,<-LT.ch_fst,h],by rw[<-LT.ch_snd,<-LT.ch_snd,h]⟩
  . rintro⟨h1,h2⟩
    exact ziE (by rw[LT.ch_fst,LT.ch_fst];exact h1) (by rw[LT.ch_snd,LT.ch_snd];exact h2)
theorem zfu(a b:LT):zfT a b=decide (a.ch=b.ch):=by
  unfold zfT
  rw[decide_eq_decide]
  exact ch_ext.symm
theorem zmG(a b:AT)(w:World)(ha:a.ok w w.heap.size)(hb:b.ok w w.heap.size) :
    Calls Tryz.prog 167 #[.agg #[.string a.nm.s,.slice a.nm.A a.nm.n a.nm.c,.string a.vl.s,.slice a.vl.A a.vl.n a.vl.c],.agg #[.string b.nm.s,.slice b.nm.A b.nm.n b.nm.c,.string b.vl.s,.slice b.vl.A b.vl.n b.vl.c]] w fun e w'=>e=.returned (.bool (decide (a.ch=b.ch)))/\Below w.heap.size w w':=by
  have HA:=Lib.hid ha
  have HB:=Lib.hid hb
  clear ha hb
  go_enter Tryz.func167,Tryz.ntmps167
  go_wp2_with fail
  generalize hw0:(w.alloc (.cells #[.string a.nm.s,.slice a.nm.A a.nm.n a.nm.c,.string a.vl.s,.slice a.vl.A a.vl.n a.vl.c] 93)).alloc (.cells #[.string b.nm.s,.slice b.nm.A b.nm.n b.nm.c,.string b.vl.s,.slice b.vl.A b.vl.n b.vl.c] 93)=w0
  have y0:Whole w0 w.heap.size 93 #[.string a.nm.s,.slice a.nm.A a.nm.n a.nm.c,.string a.vl.s,.slice a.vl.A a.vl.n a.vl.c]:=by rw[<-hw0];exact(Whole.made w _ _).alloc _
  have y1:Whole w0 (w.heap.size+1) 93 #[.string b.nm.s,.slice b.nm.A b.nm.n b.nm.c,.string b.vl.s,.slice b.vl.A b.vl.n b.vl.c]:=by
    rw[<-hw0]
    have h:=Whole.made (w.alloc (.cells #[.string a.nm.s,.slice a.nm.A a.nm.n a.nm.c,.string a.vl.s,.slice a.vl.A a.vl.n a.vl.c] 93)) 93 #[.string b.nm.s,.slice b.nm.A b.nm.n b.nm.c,.string b.vl.s,.slice b.vl.A b.vl.n b.vl.c]
    simp only[World.size_alloc]at h
    exact h
  have hb0:Below w.heap.size w w0:=by rw[<-hw0];exact((Below.refl _ _).alloc (Nat.le_refl _) _).alloc (by simp) _
  clear hw0
  refine(zfr a.nm b.nm w0 (HA.out.1.next hb0 (Nat.le_refl _)) (HB.out.1.next hb0 (Nat.le_refl _))).mono ?_
  rw[zfu]
  rintro e w1 ⟨rfl,hb1⟩
  have z0:=y0.below hb1 y0.lt
  have z1:=y1.below hb1 y1.lt
  have hbw:=zb hb0 (Nat.le_refl _) hb1
  have c2:w1.cell? ⟨w.heap.size,2,none⟩=some (.string a.vl.s):=z0.at_ 2
  have c3:w1.cell? ⟨w.heap.size,3,none⟩=some (.slice a.vl.A a.vl.n a.vl.c):=z0.at_ 3
  have c4:w1.cell? ⟨w.heap.size+1,2,none⟩=some (.string b.vl.s):=z1.at_ 2
  have c5:w1.cell? ⟨w.heap.size+1,3,none⟩=some (.slice b.vl.A b.vl.n b.vl.c):=z1.at_ 3
  by_cases hn:a.nm.ch=b.nm.ch
  . rw[decide_eq_true hn]
    have HR:Hid (decide (a.vl.ch=b.vl.ch)=decide (a.ch=b.ch)):=by
      show _=_
      rw[decide_eq_decide]
      unfold AT.ch
      rw[hn]
      simp
    clear hn
    go_wp2_with fail
    refine(zfr a.vl b.vl w1 (HA.out.2.next hbw (Nat.le_refl _)) (HB.out.2.next hbw (Nat.le_refl _))).mono ?_
    rw[zfu,HR.out]
    rintro e w2 ⟨rfl,hb2⟩
    go_wp2_with fail
    go_ret
    exact⟨rfl,zb hbw (Nat.le_refl _) hb2⟩
  . rw[decide_eq_false hn]
    have HR:Hid (decide (a.ch=b.ch)=false):=by
      show _=_
      rw[decide_eq_false_iff_not]
      intro h
      exact hn (congrArg Prod.fst h)
    clear hn
    go_wp2_with fail
    go_ret
    exact⟨by rw[HR.out];rfl,hbw⟩
theorem ztf{L:List PA}{x y:PA}(h:getA L (nmB x)=some y):putP L x=!(decide (y=x)):=by
  unfold putP
  rw[h]
  congr 1
  rw[Bool.eq_iff_iff]
  simp
theorem zoF{L:List PA}{x:PA}(h:getA L (nmB x)=none):putP L x=true:=by
  unfold putP
  rw[h]
  rfl
theorem zje(x:AT)(gi ga g b n:Nat)(A:Option Addr)(c:Nat)(ts:List AT)(w:World)(h1:w.cell? ⟨gi,0,none⟩=some (.func (.func 181) #[] #[.pointer (some ⟨g,0,none⟩)]))(h2:w.cell? ⟨ga,0,none⟩=some (.slice A n c))
    (h3:w.cell? ⟨g,0,none⟩=some (.map (some b))) (hM:MapF w b n (whF (ts.map AT.ch) n)) (hO:OneEach (ts.map AT.ch)) (hl:Lies w w.heap.size A (zm ts)) (hok:AllOk w w.heap.size ts) (hn:ts.length=n) (hn2:n<=4294967295) (hx:x.ok w w.heap.size) :
    Calls Tryz.prog 166 #[.agg #[.string x.nm.s,.slice x.nm.A x.nm.n x.nm.c,.string x.vl.s,.slice x.vl.A x.vl.n x.vl.c],.pointer (some ⟨gi,0,none⟩),.pointer (some ⟨ga,0,none⟩)] w fun e w'=>e=.returned (.bool (putP (ts.map AT.ch) x.ch))/\Below w.heap.size w w':=by
  have HLN:Hid ((ts.map AT.ch).length=n):=by show _=_;rw[List.length_map];exact hn
  have HN:=Lib.hid hn
  have HPL:=Lib.hid (zoD hO x.nm.bs)
  rw[HLN.out]at HPL
  have HWL:=Lib.hid (zsD (ts.map AT.ch) n x.nm.bs)
  have HX:=Lib.hid hx
  have HL:=Lib.hid hl
  have HOK:=Lib.hid hok
  have HM:=Lib.hid hM
  have H3:=Lib.hid h3
  have hg1:=World.block_lt_of_cell? w _ h1
  have hg2:=World.block_lt_of_cell? w _ h2
  clear hn hO hM hx hl hok h3
  go_enter Tryz.func166,Tryz.ntmps166
  generalize hw0:w.alloc (.cells #[.string x.nm.s,.slice x.nm.A x.nm.n x.nm.c,.string x.vl.s,.slice x.vl.A x.vl.n x.vl.c] 93)=w0
  have y0:Whole w0 w.heap.size 93 #[.string x.nm.s,.slice x.nm.A x.nm.n x.nm.c,.string x.vl.s,.slice x.vl.A x.vl.n x.vl.c]:=by rw[<-hw0];exact Whole.made _ _ _
  have hb0:Below w.heap.size w w0:=by rw[<-hw0];exact(Below.refl _ _).alloc (Nat.le_refl _) _
  have c0:w0.cell? ⟨w.heap.size,0,none⟩=some (.string x.nm.s):=y0.at_ 0
  have k1:=(hb0.cell hg1).trans h1
  have k2:=(hb0.cell hg2).trans h2
  go_wp2_with fail
  refine(zga x.nm.s g b n _ w0 ((hb0.cell (World.block_lt_of_cell? w _ H3.out)).trans H3.out) (HM.out.below hb0) ⟨HWL.out.1,by have:=HWL.out.2;show whF (ts.map AT.ch) n x.nm.bs<=_;omega⟩ HX.out.1.2.2.2).mono ?_
  rw[show(whF (ts.map AT.ch) n x.nm.s.data.toList - 1:Int)=plI (ts.map AT.ch) x.nm.bs from HPL.out]
  rintro e w' ⟨rfl,rfl⟩
  clear hw0
  have c1:w0.cell? ⟨w.heap.size,1,none⟩=some (.slice x.nm.A x.nm.n x.nm.c):=y0.at_ 1
  have c2:w0.cell? ⟨w.heap.size,2,none⟩=some (.string x.vl.s):=y0.at_ 2
  have c3:w0.cell? ⟨w.heap.size,3,none⟩=some (.slice x.vl.A x.vl.n x.vl.c):=y0.at_ 3
  have HX0:=Lib.hid (HX.out.next hb0 (Nat.le_refl _))
  have HOK0:=Lib.hid (HOK.out.next hb0 (Nat.le_refl _))
  have HL0:=Lib.hid (HL.out.next hb0 (Nat.le_refl _))
  by_cases hp:zP (ts.map AT.ch) x.nm.bs < n
  . have HPI:Hid (plI (ts.map AT.ch) x.nm.bs=(zP (ts.map AT.ch) x.nm.bs:Int)):=by show _=_;unfold plI;rw[if_pos (by rw[HLN.out];exact hp)]
    rw[HPI.out]
    have HGA:Hid (getA (ts.map AT.ch) (nmB x.ch)=(ts.map AT.ch)[zP (ts.map AT.ch) x.nm.bs]?):=by show _=_;rw[AT.nmB];rfl
    generalize zP (ts.map AT.ch) x.nm.bs=k at *
    obtain⟨ad,y,rfl,hbA,d0,d1,d2,d3,HR⟩:=HL0.out.att (k:=k) (by rw[HN.out];exact hp)
    have HPP:Hid (putP (ts.map AT.ch) x.ch=!(decide (y.ch=x.ch))):=ztf (HGA.out.trans (zd4 HR.out))
    have hk0:(0:Int)<=(k:Int):=Int.natCast_nonneg _
    have hk1:(k:Int) < (n:Int):=by omega
    have HYO:=Lib.hid (HOK0.out.get HR.out)
    have KS:∀ w',Below w0.heap.size w0 w'->w'.cell? ⟨w.heap.size,0,none⟩=some (.string x.nm.s)/\w'.cell? ⟨w.heap.size,1,none⟩=some (.slice x.nm.A x.nm.n x.nm.c)/\w'.cell? ⟨w.heap.size,2,none⟩=some (.string x.vl.s)/\w'.cell? ⟨w.heap.size,3,none⟩=some (.slice x.vl.A x.vl.n x.vl.c)/\w'.cell? ⟨ga,0,none⟩=some (.slice (some ad) n c)/\
        w'.cell? (ad.add (k * 4))=some (.string y.nm.s)/\w'.cell? ⟨(ad.add (k * 4)).block,(ad.add (k * 4)).off+1,none⟩=some (.slice y.nm.A y.nm.n y.nm.c)/\w'.cell? ⟨(ad.add (k * 4)).block,(ad.add (k * 4)).off+2,none⟩=some (.string y.vl.s)/\w'.cell? ⟨(ad.add (k * 4)).block,(ad.add (k * 4)).off+3,none⟩=some (.slice y.vl.A y.vl.n y.vl.c)/\Below w0.heap.size w0 w':=fun w' h=>
      ⟨(h.cell y0.lt).trans c0,(h.cell y0.lt).trans c1,(h.cell y0.lt).trans c2,(h.cell y0.lt).trans c3,(h.cell (Nat.lt_of_lt_of_le hg2 hb0.size)).trans k2,(h.cell (by rw[zW];exact hbA)).trans d0,(h.cell (p:=⟨(ad.add (k * 4)).block,(ad.add (k * 4)).off+1,none⟩) (by show(ad.add (k * 4)).block < _;rw[zW];exact hbA)).trans d1,(h.cell (p:=⟨(ad.add (k * 4)).block,(ad.add (k * 4)).off+2,none⟩) (by show(ad.add (k * 4)).block < _;rw[zW];exact hbA)).trans d2,(h.cell (p:=⟨(ad.add (k * 4)).block,(ad.add (k * 4)).off+3,none⟩) (by show(ad.add (k * 4)).block < _;rw[zW];exact hbA)).trans d3,h⟩
    have HKS:=Lib.hid KS
    clear KS
    go_wp2_with fail
    go_region_held3 (fun w'=>w'.cell? ⟨w.heap.size,0,none⟩=some (.string x.nm.s)/\w'.cell? ⟨w.heap.size,1,none⟩=some (.slice x.nm.A x.nm.n x.nm.c)/\w'.cell? ⟨w.heap.size,2,none⟩=some (.string x.vl.s)/\w'.cell? ⟨w.heap.size,3,none⟩=some (.slice x.vl.A x.vl.n x.vl.c)/\w'.cell? ⟨ga,0,none⟩=some (.slice (some ad) n c)/\
        w'.cell? (ad.add (k * 4))=some (.string y.nm.s)/\w'.cell? ⟨(ad.add (k * 4)).block,(ad.add (k * 4)).off+1,none⟩=some (.slice y.nm.A y.nm.n y.nm.c)/\w'.cell? ⟨(ad.add (k * 4)).block,(ad.add (k * 4)).off+2,none⟩=some (.string y.vl.s)/\w'.cell? ⟨(ad.add (k * 4)).block,(ad.add (k * 4)).off+3,none⟩=some (.slice y.vl.A y.vl.n y.vl.c)/\Below w0.heap.size w0 w')
      (first
        | exact HKS.out _ (Below.drew (Below.refl _ _))
        | (go_split_ands;exact HKS.out _ (by assumption))
        | (go_split_ands;exact HKS.out _ (zb (by assumption) (Nat.le_refl _) hb1)))
      (first
        | (go_at_call 167;refine(zmG y x _ ?_ ?_).mono ?_;(go_split_ands;exact HYO.out.next (by assumption) (Nat.le_refl _));(go_split_ands;exact HX0.out.next (by assumption) (Nat.le_refl _));rintro e w1 ⟨rfl,hb1⟩))
    all_goals
      go_wp2
      go_ret
      exact⟨by rw[HPP.out];rfl,zb hb0.drew (Nat.le_refl _) hb1⟩
  . have HPI:Hid (plI (ts.map AT.ch) x.nm.bs=-1):=by show _=_;unfold plI;rw[if_neg (by rw[HLN.out];exact hp)]
    have HPP:Hid (putP (ts.map AT.ch) x.ch=true):=zoF (by rw[AT.nmB];unfold getA;exact List.getElem?_eq_none (by rw[HLN.out];omega))
    rw[HPI.out]
    clear hp
    go_wp2_with fail
    go_quiet (fail)
    go_wp2
    go_ret
    exact⟨by rw[HPP.out];rfl,hb0.drewN nq⟩
end Go.Proofs.YtddgabjhligeeaaGreat.mk
