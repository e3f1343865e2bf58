import Derived.Test.YtddgabjhligeeaaGreatJoinAM
import Derived.Test.YtddgabjhligeeaaGreatJoinAP
set_option maxHeartbeats 4000000
set_option maxRecDepth 100000
namespace Go.Proofs.YtddgabjhligeeaaGreat.mk
open Go.RowKit
def ztM(p:AT->Bool)(ts:List AT)(n:Nat)(w0:World)(i:Value)(wr:World):Prop:=
  ∃ k:Nat,k<=n/\i=.int .i64 (k:Int)/\(ts.take k).any p=false/\Below w0.heap.size w0 wr
theorem zr5(F:Nat)(caps:Array Value)(p:AT->Bool)(A:Option Addr)(n c:Nat)(ts:List AT)(w:World)(hl:Lies w w.heap.size A (zm ts))(hn:ts.length=n)(hn2:n<=1048576)
    (hE:∀ args w',Sem.run Tryz.prog (callFunc F args) w'=.ok (.enter F args) w')
    (hF:∀ (t:AT) w',t∈ts->Below w.heap.size w w'->Calls Tryz.prog F (#[.agg #[.string t.nm.s,.slice t.nm.A t.nm.n t.nm.c,.string t.vl.s,.slice t.vl.A t.vl.n t.vl.c]]++ caps) w' fun e w''=>e=.returned (.bool (p t))/\Below w'.heap.size w' w'') :
    Calls Tryz.prog 157 #[.slice A n c,.func (.func F) #[] caps] w fun e w'=>(∃ v:Int,e=.returned (.int .i64 v)/\decide (0<=v)=ts.any p)/\Below w.heap.size w w':=by
  have HN:=Lib.hid hn
  have HE:=Lib.hid hE
  have HF:=Lib.hid hF
  have HL:=Lib.hid hl
  clear hn hE hF hl
  go_enter Tryz.func157,Tryz.ntmps157
  go_wp2_with fail
  go_loopw [8] (ztM p ts n w) (fun i _=>n - (intOf i).toNat)
  case atStart=>exact⟨0,Nat.zero_le _,rfl,rfl,Below.refl _ _⟩
  case round=>
    obtain⟨k,hk,rfl,hno,hb⟩:=hrel
    have HNO:=Lib.hid hno
    clear hno
    by_cases hlt:k < n
    . obtain⟨ad,t,rfl,hbA,d0,d1,d2,d3,HR⟩:=(HL.out.below hb).att (k:=k) (by rw[HN.out];exact hlt)
      have hk0:(0:Int)<=(k:Int):=Int.natCast_nonneg _
      have hk1:(k:Int) < (n:Int):=by omega
      have HNX:Hid ((ts.take (k+1)).any p=p t):=by
        show _=_
        rw[zC HR.out,List.any_append,HNO.out]
        simp
      have HCALL:=Lib.hid (HF.out t wr (List.mem_of_getElem? HR.out) hb)
      go_wp2_with fail
      rw[HE.out]
      refine HCALL.out.mono ?_
      rintro e w2 ⟨rfl,hb2⟩
      have hb3:=zb hb (Nat.le_refl _) hb2
      cases he:p t with
      | true=>
        have HP:Hid (ts.any p=true):=List.any_eq_true.2 ⟨t,List.mem_of_getElem? HR.out,he⟩
        clear he HCALL
        go_wp2_with fail
        go_ret
        exact⟨⟨(k:Int),rfl,by rw[HP.out];simp⟩,hb3⟩
      | false=>
        rw[he]at HNX
        clear he HCALL
        go_wp2_with fail
        go_roundw
        case rel=>exact⟨k+1,by omega,by go_num,HNX.out,hb3⟩
        case measure=>simp [intOf];omega
    . have HP:Hid (ts.any p=false):=by
        show _=_
        have h:=HNO.out
        rw[List.take_of_length_le (by rw[HN.out];omega)]at h
        exact h
      go_wp2_with fail
      go_ret
      exact⟨⟨-1,rfl,by rw[HP.out];rfl⟩,hb⟩
theorem znj(F:Nat)(caps:Array Value)(p:AT->Bool)(A:Option Addr)(n c:Nat)(ts:List AT)(w:World)(hl:Lies w w.heap.size A (zm ts))(hn:ts.length=n)(hn2:n<=1048576)
    (hE:∀ args w',Sem.run Tryz.prog (callFunc F args) w'=.ok (.enter F args) w')
    (hF:∀ (t:AT) w',t∈ts->Below w.heap.size w w'->Calls Tryz.prog F (#[.agg #[.string t.nm.s,.slice t.nm.A t.nm.n t.nm.c,.string t.vl.s,.slice t.vl.A t.vl.n t.vl.c]]++ caps) w' fun e w''=>e=.returned (.bool (p t))/\Below w'.heap.size w' w'') :
    Calls Tryz.prog 85 #[.slice A n c,.func (.func F) #[] caps] w fun e w'=>e=.returned (.bool (ts.all p))/\Below w.heap.size w w':=by
  have HE:=Lib.hid hE
  have HN:=Lib.hid hn
  have HF:=Lib.hid hF
  have HL:=Lib.hid hl
  have HALL:Hid (ts.all p=!(ts.any fun t=>!p t)):=by show _=_;rw[List.any_eq_not_all_not];simp
  clear hn hE hF hl
  go_enter Tryz.func85,Tryz.ntmps85
  go_wp2_with fail
  generalize hw3:w.alloc (.cells #[.func (.func F) #[] caps] 118)=w3
  have y3:Whole w3 w.heap.size 118 #[.func (.func F) #[] caps]:=by rw[<-hw3];exact Whole.made _ _ _
  have hb3:Below w.heap.size w w3:=by rw[<-hw3];exact(Below.refl _ _).alloc (Nat.le_refl _) _
  have HB3:=Lib.hid hb3
  have HG:Hid (∀ (t:AT) w',t∈ts->Below w3.heap.size w3 w'->Calls Tryz.prog 124 (#[.agg #[.string t.nm.s,.slice t.nm.A t.nm.n t.nm.c,.string t.vl.s,.slice t.vl.A t.vl.n t.vl.c]]++ #[.pointer (some ⟨w.heap.size,0,none⟩)]) w' fun e w''=>e=.returned (.bool (!p t))/\Below w'.heap.size w' w''):=by
    intro t w' ht hb
    have y4:=y3.below hb y3.lt
    have HBB:=Lib.hid (zb HB3.out (Nat.le_refl _) hb)
    clear hb hw3 hb3 y3
    show Calls _ _ #[_,_] _ _
    go_enter Tryz.func124,Tryz.ntmps124
    generalize hw5:w'.alloc (.cells #[.string t.nm.s,.slice t.nm.A t.nm.n t.nm.c,.string t.vl.s,.slice t.vl.A t.vl.n t.vl.c] 93)=w5
    have y5:Whole w5 w'.heap.size 93 #[.string t.nm.s,.slice t.nm.A t.nm.n t.nm.c,.string t.vl.s,.slice t.vl.A t.vl.n t.vl.c]:=by rw[<-hw5];exact Whole.made _ _ _
    have hb5:Below w'.heap.size w' w5:=by rw[<-hw5];exact(Below.refl _ _).alloc (Nat.le_refl _) _
    have c0:w5.cell? ⟨w.heap.size,0,none⟩=some (.func (.func F) #[] caps):=(y4.below hb5 y4.lt).at_ 0
    have e0:w5.cell? ⟨w'.heap.size,0,none⟩=some (.string t.nm.s):=y5.at_ 0
    have e1:w5.cell? ⟨w'.heap.size,1,none⟩=some (.slice t.nm.A t.nm.n t.nm.c):=y5.at_ 1
    have e2:w5.cell? ⟨w'.heap.size,2,none⟩=some (.string t.vl.s):=y5.at_ 2
    have e3:w5.cell? ⟨w'.heap.size,3,none⟩=some (.slice t.vl.A t.vl.n t.vl.c):=y5.at_ 3
    have HCALL:=Lib.hid (HF.out t w5 ht (zb HBB.out (Nat.le_refl _) hb5))
    clear y4 y5 ht
    go_wp2_with fail
    rw[HE.out]
    refine HCALL.out.mono ?_
    rintro e w6 ⟨rfl,hb6⟩
    clear HCALL e0 e1 e2 e3 c0
    go_wp2
    go_ret
    exact⟨rfl,zb hb5 (Nat.le_refl _) hb6⟩
  have HC:Hid (Calls Tryz.prog 123 #[.slice A n c,.func (.func 124) #[] #[.pointer (some ⟨w.heap.size,0,none⟩)]] w3 fun e w'=>e=.returned (.bool (ts.any fun t=>!p t))/\Below w3.heap.size w3 w'):=by
    have HI:=Lib.hid (zr5 124 #[.pointer (some ⟨w.heap.size,0,none⟩)] (fun t=>!p t) A n c ts w3 (HL.out.next HB3.out (Nat.le_refl _)) HN.out hn2 (fun _ _=>rfl) HG.out)
    clear hw3 hb3 y3 HG
    go_enter Tryz.func123,Tryz.ntmps123
    go_wp2_with fail
    refine HI.out.mono ?_
    rintro e w' ⟨⟨v,rfl,hv⟩,hb⟩
    have HV:=Lib.hid hv
    clear hv
    go_wp2
    go_ret
    exact⟨zB HV.out,hb⟩
  clear hw3 y3 HG
  refine HC.out.mono ?_
  rintro e w4 ⟨rfl,hb4⟩
  go_wp2
  go_ret
  exact⟨zB HALL.out.symm,zb hb3 (Nat.le_refl _) hb4⟩
structure Asks (F:Nat) (caps:Array Value) (p:Nat->Bool) (J:Nat->World->Prop) (Z:World->Prop) (M:World->World->Prop) (A:Option Addr) (ts:List TT):Prop where
  enters:∀ args w',Sem.run Tryz.prog (callFunc F args) w'=.ok (.enter F args) w'
  later:∀ k w' w'',J k w'->Below w'.heap.size w' w''->J k w''
  lies:∀ k w',J k w'->Lies w' w'.heap.size A (zf ts)
  kept:∀ w' w'',M w' w''->∀ (g:Nat) (cs:Array Value),Whole w' g 87 cs->Whole w'' g 87 cs
  tells:∀ (k:Nat) (t:TT) w',ts[k]?=some t->J k w'->Calls Tryz.prog F (#[.agg #[.string t.tag.s,.slice t.tag.A t.tag.n t.tag.c,.slice t.A t.n t.c,.slice t.K t.kn t.kc,.string t.text.s,.slice t.text.A t.text.n t.text.c]]++ caps) w' fun e w''=>
    e=.returned (.bool (p k))/\(p k=true->J (k+1) w'')/\(p k=false->Z w'')/\M w' w''
def ztN(p:Nat->Bool)(J:Nat->World->Prop)(n g:Nat)(cs:Array Value)(i:Value)(wr:World):Prop:=
  ∃ k:Nat,k<=n/\i=.int .i64 (k:Int)/\(∀ j,j < k->p j=true)/\J k wr/\Whole wr g 87 cs
theorem zkT{F:Nat}{caps:Array Value}{p:Nat->Bool}{J:Nat->World->Prop}{Z:World->Prop}{M:World->World->Prop}{A:Option Addr}{ts:List TT}(H:Asks F caps p J Z M A ts)(k g:Nat)(t:TT)(w:World)(ht:ts[k]?=some t)(hj:J k w)(hg:Whole w g 87 #[.func (.func F) #[] caps]) :
    Calls Tryz.prog 119 #[.agg #[.string t.tag.s,.slice t.tag.A t.tag.n t.tag.c,.slice t.A t.n t.c,.slice t.K t.kn t.kc,.string t.text.s,.slice t.text.A t.text.n t.text.c],.pointer (some ⟨g,0,none⟩)] w fun e w'=>
      e=.returned (.bool (!p k))/\(p k=true->J (k+1) w')/\(p k=false->Z w')/\Whole w' g 87 #[.func (.func F) #[] caps]:=by
  have HE:=Lib.hid H.enters
  have HK:=Lib.hid H.kept
  have HT:=Lib.hid (fun w'=>H.tells k t w' ht)
  have HLT:=Lib.hid (fun w'=>H.later k w w' hj)
  clear H ht hj
  go_enter Tryz.func119,Tryz.ntmps119
  generalize hw5:w.alloc (.cells #[.string t.tag.s,.slice t.tag.A t.tag.n t.tag.c,.slice t.A t.n t.c,.slice t.K t.kn t.kc,.string t.text.s,.slice t.text.A t.text.n t.text.c] 48)=w5
  have y5:Whole w5 w.heap.size 48 #[.string t.tag.s,.slice t.tag.A t.tag.n t.tag.c,.slice t.A t.n t.c,.slice t.K t.kn t.kc,.string t.text.s,.slice t.text.A t.text.n t.text.c]:=by rw[<-hw5];exact Whole.made _ _ _
  have hb5:Below w.heap.size w w5:=by rw[<-hw5];exact(Below.refl _ _).alloc (Nat.le_refl _) _
  have yg:=hg.below hb5 hg.lt
  have c0:w5.cell? ⟨g,0,none⟩=some (.func (.func F) #[] caps):=yg.at_ 0
  have e0:w5.cell? ⟨w.heap.size,0,none⟩=some (.string t.tag.s):=y5.at_ 0
  have e1:w5.cell? ⟨w.heap.size,1,none⟩=some (.slice t.tag.A t.tag.n t.tag.c):=y5.at_ 1
  have e2:w5.cell? ⟨w.heap.size,2,none⟩=some (.slice t.A t.n t.c):=y5.at_ 2
  have e3:w5.cell? ⟨w.heap.size,3,none⟩=some (.slice t.K t.kn t.kc):=y5.at_ 3
  have e4:w5.cell? ⟨w.heap.size,4,none⟩=some (.string t.text.s):=y5.at_ 4
  have e5:w5.cell? ⟨w.heap.size,5,none⟩=some (.slice t.text.A t.text.n t.text.c):=y5.at_ 5
  have HCALL:=Lib.hid (HT.out w5 (HLT.out w5 hb5))
  have HYG:=Lib.hid yg
  clear y5 hg yg hb5 HT HLT
  go_wp2_with fail
  rw[HE.out]
  refine HCALL.out.mono ?_
  rintro e w6 ⟨rfl,h1,h2,h3⟩
  have H1:=Lib.hid h1
  have H2:=Lib.hid h2
  have H3:=Lib.hid (HK.out _ _ h3 _ _ HYG.out)
  clear HCALL e0 e1 e2 e3 e4 e5 c0 h1 h2 h3
  go_wp2
  go_ret
  exact⟨rfl,H1.out,H2.out,H3.out⟩
theorem zr6{F:Nat}{caps:Array Value}{p:Nat->Bool}{J:Nat->World->Prop}{Z:World->Prop}{M:World->World->Prop}{A:Option Addr}{ts:List TT}(H:Asks F caps p J Z M A ts)(n c g:Nat)(w:World)(hn:ts.length=n)(hn2:n<=1048576)(hj:J 0 w)(hg:Whole w g 87 #[.func (.func F) #[] caps]) :
    Calls Tryz.prog 154 #[.slice A n c,.func (.func 119) #[] #[.pointer (some ⟨g,0,none⟩)]] w fun e w'=>
      ∃ v:Int,e=.returned (.int .i64 v)/\((v < 0/\(∀ k,k < n->p k=true)/\J n w')\/(0<=v/\(∃ k,k < n/\p k=false)/\Z w')):=by
  have HN:=Lib.hid hn
  have HL:=Lib.hid H.lies
  have HJ:=Lib.hid hj
  have HG:=Lib.hid hg
  have HC:=Lib.hid (fun k t w' ht hj hg=>zkT H k g t w' ht hj hg)
  clear hn hj hg H
  go_enter Tryz.func154,Tryz.ntmps154
  go_wp2_with fail
  go_loopw [8] (ztN p J n g #[.func (.func F) #[] caps]) (fun i _=>n - (intOf i).toNat)
  case atStart=>exact⟨0,Nat.zero_le _,rfl,fun j h=>absurd h (Nat.not_lt_zero _),HJ.out,HG.out⟩
  case round=>
    obtain⟨k,hk,rfl,hno,hj,hg⟩:=hrel
    have HNO:=Lib.hid hno
    have HJ1:=Lib.hid hj
    have HG1:=Lib.hid hg
    clear hno hj hg
    by_cases hlt:k < n
    . obtain⟨ad,t,rfl,hbA,d0,d1,d2,d3,d4,d5,HR⟩:=(HL.out k wr HJ1.out).tree (k:=k) (by rw[HN.out];exact hlt)
      have hk0:(0:Int)<=(k:Int):=Int.natCast_nonneg _
      have hk1:(k:Int) < (n:Int):=by omega
      have HCALL:=Lib.hid (HC.out k t wr HR.out HJ1.out HG1.out)
      go_wp2_with fail
      refine HCALL.out.mono ?_
      rintro e w2 ⟨rfl,h1,h2,h3⟩
      have H1:=Lib.hid h1
      have H2:=Lib.hid h2
      have H3:=Lib.hid h3
      clear h1 h2 h3 HCALL d0 d1 d2 d3 d4 d5
      cases he:p k with
      | true=>
        have HJ2:=Lib.hid (H1.out he)
        have HNX:Hid (∀ j,j < k+1->p j=true):=fun j hj=>by
          rcases Nat.lt_or_ge j k with h | h
          . exact HNO.out j h
          . obtain rfl:j=k:=by omega
            exact he
        clear he H1 H2
        go_wp2_with fail
        go_roundw
        case rel=>exact⟨k+1,by omega,by go_num,HNX.out,HJ2.out,H3.out⟩
        case measure=>simp [intOf];omega
      | false=>
        have HZ2:=Lib.hid (H2.out he)
        have HEX:Hid (∃ k,k < n/\p k=false):=⟨k,hlt,he⟩
        clear he H1 H2
        go_wp2_with fail
        go_ret
        exact⟨(k:Int),rfl,.inr ⟨by omega,HEX.out,HZ2.out⟩⟩
    . obtain rfl:k=n:=by omega
      go_wp2_with fail
      go_ret
      exact⟨-1,rfl,.inl ⟨by omega,HNO.out,HJ1.out⟩⟩
theorem zhB{F:Nat}{caps:Array Value}{p:Nat->Bool}{J:Nat->World->Prop}{Z:World->Prop}{M:World->World->Prop}{A:Option Addr}{ts:List TT}(H:Asks F caps p J Z M A ts)(n c:Nat)(w:World)(hn:ts.length=n)(hn2:n<=1048576)(hj:J 0 w) :
    Calls Tryz.prog 80 #[.slice A n c,.func (.func F) #[] caps] w fun e w'=>
      (e=.returned (.bool true)/\(∀ k,k < n->p k=true)/\J n w')\/(e=.returned (.bool false)/\(∃ k,k < n/\p k=false)/\Z w'):=by
  have HL:=Lib.hid (fun w'=>H.later 0 w w' hj)
  have HI:=Lib.hid (fun g w' hj hg=>zr6 H n c g w' hn hn2 hj hg)
  clear H hn hj
  go_enter Tryz.func80,Tryz.ntmps80
  go_wp2_with fail
  generalize hw3:w.alloc (.cells #[.func (.func F) #[] caps] 87)=w3
  have y3:Whole w3 w.heap.size 87 #[.func (.func F) #[] caps]:=by rw[<-hw3];exact Whole.made _ _ _
  have hb3:Below w.heap.size w w3:=by rw[<-hw3];exact(Below.refl _ _).alloc (Nat.le_refl _) _
  have HC:Hid (Calls Tryz.prog 118 #[.slice A n c,.func (.func 119) #[] #[.pointer (some ⟨w.heap.size,0,none⟩)]] w3 fun e w'=>(e=.returned (.bool false)/\(∀ k,k < n->p k=true)/\J n w')\/(e=.returned (.bool true)/\(∃ k,k < n/\p k=false)/\Z w')):=by
    have HX:=Lib.hid (HI.out w.heap.size w3 (HL.out w3 hb3) y3)
    clear hw3 hb3 y3 HI HL
    go_enter Tryz.func118,Tryz.ntmps118
    go_wp2_with fail
    refine HX.out.mono ?_
    rintro e w' ⟨v,rfl,h⟩
    have HV:=Lib.hid h
    clear h
    go_wp2
    go_ret
    rcases HV.out with ⟨h1,h2,h3⟩ | ⟨h1,h2,h3⟩
    . exact .inl ⟨zB (decide_eq_false (by omega)),h2,h3⟩
    . exact .inr ⟨zB (decide_eq_true h1),h2,h3⟩
  clear hw3 y3 HI HL
  refine HC.out.mono ?_
  clear HC
  rintro e w4 (⟨rfl,h2,h3⟩ | ⟨rfl,h2,h3⟩)
  . have H2:=Lib.hid h2
    have H3:=Lib.hid h3
    clear h2 h3
    go_wp2
    go_ret
    exact .inl ⟨rfl,H2.out,H3.out⟩
  . have H2:=Lib.hid h2
    have H3:=Lib.hid h3
    clear h2 h3
    go_wp2
    go_ret
    exact .inr ⟨rfl,H2.out,H3.out⟩
structure TreeIn (w:World) (t:TT):Prop where
  self:t.inS (fun b=>b < w.heap.size) w
  kids:AllS (fun b=>b < w.heap.size) w t.kids
  bulk:t.ch.bk<=1048576
theorem TreeIn.next{w w':World}{t:TT}(h:TreeIn w t)(hb:Below w.heap.size w w'):TreeIn w' t:=
  ⟨(h.self.keep (Stays.of hb)).mono fun _ hb2 _=>Nat.lt_of_lt_of_le hb2 hb.size,(h.kids.keep (Stays.of hb)).mono fun _ hb2 _=>Nat.lt_of_lt_of_le hb2 hb.size,h.bulk⟩
theorem TreesIn0.one{w:World}{A:Option Addr}{n:Nat}{ts:List TT}(h:TreesIn0 w A n ts){t:TT}(ht:t∈ts):TreeIn w t:=by
  have h2:t.ch∈chL ts:=by rw[zch];exact List.mem_map.2 ⟨t,ht,rfl⟩
  exact⟨h.all.get ht,h.all.kids ht,Nat.le_trans (zoa h2) h.bulk⟩
theorem TreeIn.kid{w:World}{t:TT}(h:TreeIn w t):TreesIn0 w t.K t.kn t.kids:=by
  refine⟨h.self.kid,h.kids,h.self.kn,?_⟩
  have h1:=h.bulk
  rw[PT.bk_eq,TT.ch_kids]at h1
  omega
theorem TreeIn.text{w:World}{t:TT}(h:TreeIn w t):t.text.s.size<=1048576:=by
  have h1:=h.bulk
  rw[PT.bk_eq,TT.ch_text,LT.ch_length]at h1
  omega
theorem TreeIn.tag{w:World}{t:TT}(h:TreeIn w t):t.tag.s.size<=1048576:=by
  have h1:=h.bulk
  rw[PT.bk_eq,TT.ch_tag,LT.ch_length]at h1
  omega
theorem zjO(a:AT)(w:World)(h2:a.vl.s.size<=4294967296) :
    Calls Tryz.prog 86 #[.agg #[.string a.nm.s,.slice a.nm.A a.nm.n a.nm.c,.string a.vl.s,.slice a.vl.A a.vl.n a.vl.c]] w fun e w'=>e=.returned (.bool (zdH a.ch))/\Below w.heap.size w w':=by
  have HR:Hid (zdH a.ch=(zdu a.nm.s.data.toList && zai a.vl.s.data.toList)):=by
    show zdH a.ch=_
    unfold zdH
    rw[AT.nmB,show a.ch.2=a.vl.ch from rfl,LT.ch_fst]
    rfl
  have HN:=Lib.hid (znb a.nm.s)
  have HV:=Lib.hid (fun w=>zfP a.vl.s w h2)
  clear h2
  go_enter Tryz.func86,Tryz.ntmps86
  go_wp2_with fail
  generalize hw5:w.alloc (.cells #[.string a.nm.s,.slice a.nm.A a.nm.n a.nm.c,.string a.vl.s,.slice a.vl.A a.vl.n a.vl.c] 93)=w5
  have y5:Whole w5 w.heap.size 93 #[.string a.nm.s,.slice a.nm.A a.nm.n a.nm.c,.string a.vl.s,.slice a.vl.A a.vl.n a.vl.c]:=by rw[<-hw5];exact Whole.made _ _ _
  have hb5:Below w.heap.size w w5:=by rw[<-hw5];exact(Below.refl _ _).alloc (Nat.le_refl _) _
  clear hw5
  refine(HN.out w5).mono ?_
  rintro e w6 ⟨rfl,hb6⟩
  have y6:=y5.below hb6 y5.lt
  have d2:w6.cell? ⟨w.heap.size,2,none⟩=some (.string a.vl.s):=y6.at_ 2
  have hb:=zb hb5 (Nat.le_refl _) hb6
  cases hq:zdu a.nm.s.data.toList with
  | false=>
    rw[hq]at HR
    clear hq
    go_wp2_with fail
    go_ret
    exact⟨zB (by rw[HR.out];rfl),hb⟩
  | true=>
    rw[hq]at HR
    clear hq
    go_wp2_with fail
    refine(HV.out w6).mono ?_
    rintro e w7 ⟨rfl,rfl⟩
    go_wp2_with fail
    go_ret
    exact⟨zB (by rw[HR.out];rfl),hb⟩
theorem ztO(t:TT):rawK t.ch=(!elH t && rawB t.text.s.data.toList):=by
  unfold rawK
  rw[TT.ch_tag,TT.ch_text,LT.ch_fst,zeO]
  simp [LT.bs]
theorem zjP(t:TT)(w:World)(hs:t.text.s.size<=1048576) :
    Calls Tryz.prog 128 #[.agg #[.string t.tag.s,.slice t.tag.A t.tag.n t.tag.c,.slice t.A t.n t.c,.slice t.K t.kn t.kc,.string t.text.s,.slice t.text.A t.text.n t.text.c]] w fun e w'=>e=.returned (.bool (rawK t.ch))/\Below w.heap.size w w':=by
  have HR:=Lib.hid (ztO t)
  have HE:=Lib.hid (zaZ t)
  have HV:=Lib.hid (fun w=>ztx t.text.s t.text.A t.text.n t.text.c w (by omega))
  clear hs
  go_enter Tryz.func128,Tryz.ntmps128
  generalize hw5:w.alloc (.cells #[.string t.tag.s,.slice t.tag.A t.tag.n t.tag.c,.slice t.A t.n t.c,.slice t.K t.kn t.kc,.string t.text.s,.slice t.text.A t.text.n t.text.c] 48)=w5
  have y5:Whole w5 w.heap.size 48 #[.string t.tag.s,.slice t.tag.A t.tag.n t.tag.c,.slice t.A t.n t.c,.slice t.K t.kn t.kc,.string t.text.s,.slice t.text.A t.text.n t.text.c]:=by rw[<-hw5];exact Whole.made _ _ _
  have hb5:Below w.heap.size w w5:=by rw[<-hw5];exact(Below.refl _ _).alloc (Nat.le_refl _) _
  have e0:w5.cell? ⟨w.heap.size,0,none⟩=some (.string t.tag.s):=y5.at_ 0
  have e1:w5.cell? ⟨w.heap.size,1,none⟩=some (.slice t.tag.A t.tag.n t.tag.c):=y5.at_ 1
  have e2:w5.cell? ⟨w.heap.size,2,none⟩=some (.slice t.A t.n t.c):=y5.at_ 2
  have e3:w5.cell? ⟨w.heap.size,3,none⟩=some (.slice t.K t.kn t.kc):=y5.at_ 3
  have e4:w5.cell? ⟨w.heap.size,4,none⟩=some (.string t.text.s):=y5.at_ 4
  have e5:w5.cell? ⟨w.heap.size,5,none⟩=some (.slice t.text.A t.text.n t.text.c):=y5.at_ 5
  go_wp2_with fail
  clear hw5
  refine(HE.out w5).mono ?_
  rintro e w6 ⟨rfl,hb6⟩
  have y6:=y5.below hb6 y5.lt
  have hb:=zb hb5 (Nat.le_refl _) hb6
  clear e0 e1 e2 e3 e4 e5
  have d4:w6.cell? ⟨w.heap.size,4,none⟩=some (.string t.text.s):=y6.at_ 4
  have d5:w6.cell? ⟨w.heap.size,5,none⟩=some (.slice t.text.A t.text.n t.text.c):=y6.at_ 5
  cases hq:elH t with
  | true=>
    rw[hq]at HR
    clear hq
    go_wp2_with fail
    go_ret
    exact⟨zB (by rw[HR.out];rfl),hb⟩
  | false=>
    rw[hq]at HR
    clear hq
    go_wp2_with fail
    refine(HV.out w6).mono ?_
    rintro e w7 ⟨rfl,hb7⟩
    go_wp2_with fail
    go_ret
    exact⟨zB (by rw[HR.out];rfl),zb hb (Nat.le_refl _) hb7⟩
theorem zpW{F:Nat}{w:World}{A:Option Addr}{n:Nat}{ts:List TT}(p:TT->Bool)(h:TreesIn0 w A n ts)
    (hE:∀ args w',Sem.run Tryz.prog (callFunc F args) w'=.ok (.enter F args) w')
    (hF:∀ (t:TT) w',t∈ts->Below w.heap.size w w'->Calls Tryz.prog F #[.agg #[.string t.tag.s,.slice t.tag.A t.tag.n t.tag.c,.slice t.A t.n t.c,.slice t.K t.kn t.kc,.string t.text.s,.slice t.text.A t.text.n t.text.c]] w' fun e w''=>e=.returned (.bool (p t))/\Below w'.heap.size w' w'') :
    Asks F #[] (fun k=>match ts[k]? with | some t=>p t | none=>false) (fun _ w'=>Below w.heap.size w w') (fun w'=>Below w.heap.size w w') (fun w' w''=>Below w'.heap.size w' w'') A ts where
  enters:=hE
  later:=fun _ _ _ h1 h2=>zb h1 (Nat.le_refl _) h2
  lies:=fun _ _ hb=>(h.next hb).lies.lies
  kept:=fun _ _ hb _ _ hg=>hg.below hb hg.lt
  tells:=fun k t w' ht hb=>by
    refine(hF t w' (List.mem_of_getElem? ht) hb).mono ?_
    rintro e w'' ⟨rfl,hb2⟩
    have hb3:=zb hb (Nat.le_refl _) hb2
    refine⟨?_,fun _=>hb3,fun _=>hb3,hb2⟩
    rw[ht]
theorem zuX{ts:List TT}{p:TT->Bool}{n:Nat}(hn:ts.length=n)(h:∀ k,k < n->(match ts[k]? with | some t=>p t | none=>false)=true):ts.all p=true:=by
  rw[List.all_eq_true]
  intro t ht
  obtain⟨i,hi,rfl⟩:=List.getElem_of_mem ht
  have:=h i (by omega)
  rw[List.getElem?_eq_getElem hi]at this
  exact this
theorem ztP{ts:List TT}{p:TT->Bool}{n:Nat}(hn:ts.length=n)(h:∃ k,k < n/\(match ts[k]? with | some t=>p t | none=>false)=false):ts.all p=false:=by
  obtain⟨k,hk,h⟩:=h
  have hk':k < ts.length:=by omega
  rw[List.getElem?_eq_getElem hk']at h
  rw[List.all_eq_false]
  exact⟨_,List.getElem_mem hk',by rw[show p ts[k]=false from h];decide⟩
theorem zhC{F:Nat}{w:World}{A:Option Addr}{n:Nat}{ts:List TT}(c:Nat)(p:TT->Bool)(h:TreesIn0 w A n ts)
    (hE:∀ args w',Sem.run Tryz.prog (callFunc F args) w'=.ok (.enter F args) w')
    (hF:∀ (t:TT) w',t∈ts->Below w.heap.size w w'->Calls Tryz.prog F #[.agg #[.string t.tag.s,.slice t.tag.A t.tag.n t.tag.c,.slice t.A t.n t.c,.slice t.K t.kn t.kc,.string t.text.s,.slice t.text.A t.text.n t.text.c]] w' fun e w''=>e=.returned (.bool (p t))/\Below w'.heap.size w' w'') :
    Calls Tryz.prog 80 #[.slice A n c,.func (.func F) #[] #[]] w fun e w'=>e=.returned (.bool (ts.all p))/\Below w.heap.size w w':=by
  refine(zhB (zpW p h hE hF) n c w h.len h.small (Below.refl _ _)).mono ?_
  rintro e w' (⟨rfl,h2,h3⟩ | ⟨rfl,h2,h3⟩)
  . exact⟨by rw[zuX h.len h2],h3⟩
  . exact⟨by rw[ztP h.len h2],h3⟩
theorem all_map(ts:List TT)(p:PT->Bool):(ts.all fun t=>p t.ch)=(chL ts).all p:=by rw[zch,List.all_map];rfl
def znk(t:PT):Bool:=if zbF (t.tag.map (·.1)) then t.kids.isEmpty else if rawH (t.tag.map (·.1)) then t.kids.all rawK else fitL t.kids
theorem zr7(t:TT):znk t.ch=if zbF t.tag.s.data.toList then (chL t.kids).isEmpty else if rawH t.tag.s.data.toList then (chL t.kids).all rawK else fitL (chL t.kids):=by
  unfold znk
  rw[TT.ch_tag,TT.ch_kids,LT.ch_fst]
  rfl
theorem zr8{w:World}{t:TT}(h:TreeIn w t):(chL t.kids).isEmpty=decide ((t.kn:Int)=0):=by
  have h1:=h.self.kn
  rw[<-h1]
  cases t.kids with
  | nil=>rw[chL];rfl
  | cons x l=>rw[chL];simp;omega
theorem zkU(t:TT)(w:World)(h:TreeIn w t)
    (hK:∀ w',Below w.heap.size w w'->Calls Tryz.prog 50 #[.slice t.K t.kn t.kc] w' fun e w''=>e=.returned (.bool (fitL (chL t.kids)))/\Below w'.heap.size w' w'') :
    Calls Tryz.prog 87 #[.agg #[.string t.tag.s,.slice t.tag.A t.tag.n t.tag.c,.slice t.A t.n t.c,.slice t.K t.kn t.kc,.string t.text.s,.slice t.text.A t.text.n t.text.c]] w fun e w'=>e=.returned (.bool (znk t.ch))/\Below w.heap.size w w':=by
  have HR:=Lib.hid (zr7 t)
  have HKE:=Lib.hid (zr8 h)
  have HK:=Lib.hid hK
  have HV:=Lib.hid (zgq t.tag.s)
  have HW:=Lib.hid (zhu t.tag.s)
  have HP:Hid (∀ w',Below w.heap.size w w'->Calls Tryz.prog 80 #[.slice t.K t.kn t.kc,.func (.func 128) #[] #[]] w' fun e w''=>e=.returned (.bool ((chL t.kids).all rawK))/\Below w'.heap.size w' w''):=fun w' hb=>by
    have h2:=zhC (F:=128) t.kc (fun x=>rawK x.ch) ((h.next hb).kid) (fun _ _=>rfl) (fun x w'' hx _=>zjP x w'' (((h.next hb).kid.one hx).text))
    rw[all_map]at h2
    exact h2
  clear h hK
  go_enter Tryz.func87,Tryz.ntmps87
  go_wp2_with fail
  generalize hw5:w.alloc (.cells #[.string t.tag.s,.slice t.tag.A t.tag.n t.tag.c,.slice t.A t.n t.c,.slice t.K t.kn t.kc,.string t.text.s,.slice t.text.A t.text.n t.text.c] 48)=w5
  have y5:Whole w5 w.heap.size 48 #[.string t.tag.s,.slice t.tag.A t.tag.n t.tag.c,.slice t.A t.n t.c,.slice t.K t.kn t.kc,.string t.text.s,.slice t.text.A t.text.n t.text.c]:=by rw[<-hw5];exact Whole.made _ _ _
  have hb5:Below w.heap.size w w5:=by rw[<-hw5];exact(Below.refl _ _).alloc (Nat.le_refl _) _
  clear hw5
  have e0:w5.cell? ⟨w.heap.size,0,none⟩=some (.string t.tag.s):=y5.at_ 0
  have e3:w5.cell? ⟨w.heap.size,3,none⟩=some (.slice t.K t.kn t.kc):=y5.at_ 3
  refine(HV.out w5).mono ?_
  rintro e w6 ⟨rfl,rfl⟩
  cases hv:zbF t.tag.s.data.toList with
  | true=>
    rw[hv,if_pos rfl]at HR
    clear hv
    go_wp2_with fail
    go_ret
    exact⟨zB (by rw[HR.out,HKE.out];first | rfl | (rw[Bool.eq_iff_iff];simp)),hb5⟩
  | false=>
    rw[hv,if_neg (by decide)]at HR
    clear hv
    go_wp2_with fail
    refine(HW.out w5).mono ?_
    rintro e w6 ⟨rfl,rfl⟩
    cases hr:rawH t.tag.s.data.toList with
    | true=>
      rw[hr,if_pos rfl]at HR
      clear hr
      go_wp2_with fail
      refine(HP.out w5 hb5).mono ?_
      rintro e w7 ⟨rfl,hb7⟩
      go_wp2_with fail
      go_ret
      exact⟨zB (by rw[HR.out]),zb hb5 (Nat.le_refl _) hb7⟩
    | false=>
      rw[hr,if_neg (by decide)]at HR
      clear hr
      go_wp2_with fail
      refine(HK.out w5 hb5).mono ?_
      rintro e w7 ⟨rfl,hb7⟩
      go_wp2_with fail
      go_ret
      exact⟨zB (by rw[HR.out]),zb hb5 (Nat.le_refl _) hb7⟩
theorem ztQ(t:TT):t.ch.fitH=if elH t then tagH t.tag.s.data.toList && (t.atts.all (fun a=>zdH a.ch) && znk t.ch) else zai t.text.s.data.toList:=by
  rw[PT.fitH_eq,TT.ch_tag,TT.ch_attrs,TT.ch_text,LT.ch_fst,LT.ch_fst,List.all_map]
  have h:=zeO t
  unfold znk
  rw[TT.ch_tag,LT.ch_fst]
  by_cases ht:t.tag.ch=[]
  . rw[if_pos ht,h,decide_eq_true ht]
    rfl
  . rw[if_neg ht,h,decide_eq_false ht]
    rfl
theorem zpX(t:TT)(w:World)(h:TreeIn w t)
    (hK:∀ w',Below w.heap.size w w'->Calls Tryz.prog 50 #[.slice t.K t.kn t.kc] w' fun e w''=>e=.returned (.bool (fitL (chL t.kids)))/\Below w'.heap.size w' w'') :
    Calls Tryz.prog 81 #[.agg #[.string t.tag.s,.slice t.tag.A t.tag.n t.tag.c,.slice t.A t.n t.c,.slice t.K t.kn t.kc,.string t.text.s,.slice t.text.A t.text.n t.text.c]] w fun e w'=>e=.returned (.bool t.ch.fitH)/\Below w.heap.size w w':=by
  have HR:=Lib.hid (ztQ t)
  have HE:=Lib.hid (zaZ t)
  have HV:=Lib.hid (fun w=>zfP t.text.s w (by have:=h.text;omega))
  have HT:=Lib.hid (zpA t.tag.s)
  have HA:Hid (∀ w',Below w.heap.size w w'->Calls Tryz.prog 85 #[.slice t.A t.n t.c,.func (.func 86) #[] #[]] w' fun e w''=>e=.returned (.bool (t.atts.all fun a=>zdH a.ch))/\Below w'.heap.size w' w''):=fun w' hb=>
    znj 86 #[] (fun a=>zdH a.ch) t.A t.n t.c t.atts w' (h.next hb).self.att.lies h.self.an h.self.am (fun _ _=>rfl) (fun a w'' ha _=>zjO a w'' ((h.self.atts a ha).2.2.2.2))
  have HKF:Hid (∀ w',Below w.heap.size w w'->Calls Tryz.prog 87 #[.agg #[.string t.tag.s,.slice t.tag.A t.tag.n t.tag.c,.slice t.A t.n t.c,.slice t.K t.kn t.kc,.string t.text.s,.slice t.text.A t.text.n t.text.c]] w' fun e w''=>e=.returned (.bool (znk t.ch))/\Below w'.heap.size w' w''):=fun w' hb=>
    zkU t w' (h.next hb) (fun w'' hb2=>hK w'' (zb hb (Nat.le_refl _) hb2))
  clear h hK
  go_enter Tryz.func81,Tryz.ntmps81
  generalize hw5:w.alloc (.cells #[.string t.tag.s,.slice t.tag.A t.tag.n t.tag.c,.slice t.A t.n t.c,.slice t.K t.kn t.kc,.string t.text.s,.slice t.text.A t.text.n t.text.c] 48)=w5
  have y5:Whole w5 w.heap.size 48 #[.string t.tag.s,.slice t.tag.A t.tag.n t.tag.c,.slice t.A t.n t.c,.slice t.K t.kn t.kc,.string t.text.s,.slice t.text.A t.text.n t.text.c]:=by rw[<-hw5];exact Whole.made _ _ _
  have hb5:Below w.heap.size w w5:=by rw[<-hw5];exact(Below.refl _ _).alloc (Nat.le_refl _) _
  have e0:w5.cell? ⟨w.heap.size,0,none⟩=some (.string t.tag.s):=y5.at_ 0
  have e1:w5.cell? ⟨w.heap.size,1,none⟩=some (.slice t.tag.A t.tag.n t.tag.c):=y5.at_ 1
  have e2:w5.cell? ⟨w.heap.size,2,none⟩=some (.slice t.A t.n t.c):=y5.at_ 2
  have e3:w5.cell? ⟨w.heap.size,3,none⟩=some (.slice t.K t.kn t.kc):=y5.at_ 3
  have e4:w5.cell? ⟨w.heap.size,4,none⟩=some (.string t.text.s):=y5.at_ 4
  have e5:w5.cell? ⟨w.heap.size,5,none⟩=some (.slice t.text.A t.text.n t.text.c):=y5.at_ 5
  go_wp2_with fail
  clear hw5
  refine(HE.out w5).mono ?_
  rintro e w6 ⟨rfl,hb6⟩
  have y6:=y5.below hb6 y5.lt
  have hb:=zb hb5 (Nat.le_refl _) hb6
  clear e0 e1 e2 e3 e4 e5
  have d0:w6.cell? ⟨w.heap.size,0,none⟩=some (.string t.tag.s):=y6.at_ 0
  have d4:w6.cell? ⟨w.heap.size,4,none⟩=some (.string t.text.s):=y6.at_ 4
  cases hq:elH t with
  | false=>
    rw[hq,if_neg (by decide)]at HR
    clear hq
    go_wp2_with fail
    refine(HV.out w6).mono ?_
    rintro e w7 ⟨rfl,rfl⟩
    go_wp2_with fail
    go_ret
    exact⟨zB (by rw[HR.out]),hb⟩
  | true=>
    rw[hq,if_pos rfl]at HR
    clear hq
    go_wp2_with fail
    refine(HT.out w6).mono ?_
    rintro e w7 ⟨rfl,hb7⟩
    have y7:=y6.below hb7 y6.lt
    have hbb:=zb hb (Nat.le_refl _) hb7
    clear d0 d4
    have d2:w7.cell? ⟨w.heap.size,2,none⟩=some (.slice t.A t.n t.c):=y7.at_ 2
    cases hq:tagH t.tag.s.data.toList with
    | false=>
      rw[hq]at HR
      clear hq
      go_wp2_with fail
      go_ret
      exact⟨zB (by rw[HR.out];rfl),hbb⟩
    | true=>
      rw[hq]at HR
      clear hq
      go_wp2_with fail
      refine(HA.out w7 hbb).mono ?_
      rintro e w8 ⟨rfl,hb8⟩
      have y8:=y7.below hb8 y7.lt
      have hbc:=zb hbb (Nat.le_refl _) hb8
      clear d2
      have d0:w8.cell? ⟨w.heap.size,0,none⟩=some (.string t.tag.s):=y8.at_ 0
      have d1:w8.cell? ⟨w.heap.size,1,none⟩=some (.slice t.tag.A t.tag.n t.tag.c):=y8.at_ 1
      have d2:w8.cell? ⟨w.heap.size,2,none⟩=some (.slice t.A t.n t.c):=y8.at_ 2
      have d3:w8.cell? ⟨w.heap.size,3,none⟩=some (.slice t.K t.kn t.kc):=y8.at_ 3
      have d4:w8.cell? ⟨w.heap.size,4,none⟩=some (.string t.text.s):=y8.at_ 4
      have d5:w8.cell? ⟨w.heap.size,5,none⟩=some (.slice t.text.A t.text.n t.text.c):=y8.at_ 5
      cases hq:(t.atts.all fun a=>zdH a.ch) with
      | false=>
        rw[hq]at HR
        clear hq
        go_wp2_with fail
        go_ret
        exact⟨zB (by rw[HR.out];rfl),hbc⟩
      | true=>
        rw[hq]at HR
        clear hq
        go_wp2_with fail
        refine(HKF.out w8 hbc).mono ?_
        rintro e w9 ⟨rfl,hb9⟩
        go_wp2_with fail
        go_ret
        exact⟨zB (by rw[HR.out];rfl),zb hbc (Nat.le_refl _) hb9⟩
theorem zr9:∀ (Q:List PT) (A:Option Addr) (n c:Nat) (ts:List TT) (w:World),chL ts=Q->TreesIn0 w A n ts->
    Calls Tryz.prog 50 #[.slice A n c] w fun e w'=>e=.returned (.bool (fitL (chL ts)))/\Below w.heap.size w w':=by
  apply PT.ind
  intro Q IH A n c ts w hq h
  have HC:Hid (Calls Tryz.prog 80 #[.slice A n c,.func (.func 81) #[] #[]] w fun e w'=>e=.returned (.bool (fitL (chL ts)))/\Below w.heap.size w w'):=by
    have h2:=zhC (F:=81) c (fun x=>x.ch.fitH) h (fun _ _=>rfl) (fun x w' hx hb=>zpX x w' ((h.next hb).one hx) (fun w'' hb2=>
      IH x.ch (by rw[<-hq,zch];exact List.mem_map.2 ⟨x,hx,rfl⟩) x.K x.kn x.kc x.kids w'' (TT.ch_kids x).symm (((h.next hb).next hb2).kid hx)))
    rw[all_map,<-zl0]at h2
    exact h2
  clear IH hq h
  go_enter Tryz.func50,Tryz.ntmps50
  go_wp2_with fail
  refine HC.out.mono ?_
  rintro e w1 ⟨rfl,hb1⟩
  go_wp2_with fail
  go_ret
  exact⟨rfl,hb1⟩
def zcT(l:Ch)(w:World)(e:Ending)(w':World):Prop:=
  ∃ t:LT,e=.returned (.agg #[.string t.s,.slice t.A t.n t.c])/\Hid (t.ch=l/\OwnL w' w.heap.size t)/\Below w.heap.size w w'
theorem zgx{l:Ch}{w w':World}{e:Ending}(hi:InR l)(hn:l.length<=4294967296)(h:zbD (zh l) (comp (l.map (·.2))) w e w'):zcT l w e w':=by
  obtain⟨v,rfl,ho,hb⟩:=h
  obtain⟨A,c,rfl,_,_,_⟩:=zg ho
  exact⟨zbK l A c,rfl,⟨zav hi A c,rfl,⟨Nat.le_trans (zep l) hn,by show comp (l.map (·.2))=comp ((zbK l A c).ch.map (·.2));rw[zav hi]⟩,by show(zh l).size<=_;rw[zA];exact hn,ho⟩,hb⟩
theorem znl(us:List LT):zS us=(us.map LT.ch).flatten:=by unfold zS;rw[List.flatMap_def]
theorem InR.cat(us:List LT):InR (zS us):=by
  induction us with
  | nil=>intro o ho;cases ho
  | cons u us ih=>exact(u.ch_in).append ih
theorem ziq(us:List LT)(A:Option Addr)(n c:Nat)(w:World)(hl:Lies w w.heap.size A (zG us))(hn:us.length=n)(hn2:n<=4294967296)(hok:∀ u∈us,u.ok w w.heap.size)(hz:(zS us).length<=4294967296) :
    Calls Tryz.prog 54 #[.slice A n c] w (zcT (zS us) w):=(zd3 us A n c w hl hn hn2 hok hz).mono fun _ _ h=>zgx (InR.cat us) hz h
theorem zpY(b a:LT)(w:World)(hb:b.ok w w.heap.size)(ha:a.ok w w.heap.size)(hs:a.s.size<=3000000)(hsb:b.s.size<=3000000) :
    Calls Tryz.prog 132 #[.agg #[.string b.s,.slice b.A b.n b.c],.agg #[.string a.s,.slice a.A a.n a.c]] w (zcT (zcu b.ch a.ch) w):=
  (zq7 b a w hb ha hs hsb).mono fun _ _ h=>zgx (InR.pair b.ch_in a.ch_in) (by have:=zjb b.ch a.ch;rw[LT.ch_length,LT.ch_length]at this;omega) h
theorem znm(a:LT)(w:World)(ha:a.ok w w.heap.size)(hs:a.s.size<=3000000) :
    Calls Tryz.prog 52 #[.agg #[.string a.s,.slice a.A a.n a.c]] w (zcT (escL false a.ch) w):=
  (zja a w ha hs).mono fun _ _ h=>zgx a.ch_in.esc (by have:=(zdS false a.ch).2;rw[LT.ch_length]at this;omega) h
def PartOk(base:Nat)(w:World)(u:LT):Prop:=OwnL w base u\/u.ok w base
structure KeepR (base:Nat) (w w':World):Prop where
  size:w.heap.size<=w'.heap.size
  low:∀ b,b < base->w'.heap[b]?=w.heap[b]?
  runs:∀ g c,base<=g->w.heap[g]?=some (.cells c 53 (0,0))->w'.heap[g]?=w.heap[g]?
theorem KeepR.of{base:Nat}{w w':World}(h:Below w.heap.size w w')(hb:base<=w.heap.size):KeepR base w w':=
  ⟨h.size,fun b hb2=>h.block b (by omega),fun g c _ hc=>h.block g (Array.getElem?_eq_some_iff.1 hc).1⟩
theorem PartOk.keep{base:Nat}{w w':World}{u:LT}(h:PartOk base w u)(hk:KeepR base w w'):PartOk base w' u:=by
  rcases h with h | h
  . exact .inl (h.keep fun g c hg hc=>hk.runs g c hg hc)
  . exact .inr (h.keep fun p hp=>World.cell?_of_block (hk.low _ hp))
theorem PartOk.ok{base:Nat}{w:World}{u:LT}(h:PartOk base w u)(hb:base<=w.heap.size):u.ok w w.heap.size:=by
  rcases h with h | h
  . exact h.ok
  . exact h.mono hb
theorem znn{w w':World}{base1 base2 n1 n2 s1 s2:Nat}{e1 e2:TypeId}{v1 v2:Value}{x1 x2:List Value}(h1:w.ownsRow base1 e1 s1 v1 n1 x1)(h2:w.ownsRow base2 e2 s2 v2 n2 x2)(he:e1≠e2)(hg:w.grownBy w' v2.ownBlock):w'.ownsRow base1 e1 s1 v1 n1 x1:=
  zaE h1 fun g hgb=>by
    obtain⟨c1,hc1⟩:=zaA h1 hgb
    refine hg.block g (h1.lt g hgb).2 fun e=>?_
    obtain⟨c2,hc2⟩:=zaA h2 e.symm
    rw[hc1]at hc2
    injection hc2 with hc2
    injection hc2 with _ h _
    exact he h
theorem KeepR.grown{base:Nat}{w w':World}{base2 n s:Nat}{v:Value}{xs:List Value}{e:TypeId}(ho:w.ownsRow base2 e s v n xs)(he:e≠53)(hb:base<=base2)(hg:w.grownBy w' v.ownBlock)(hz:base<=w.heap.size):KeepR base w w':=
  ⟨hg.size,fun b hb2=>hg.block b (by omega) (fun h=>by have:=(ho.lt b h.symm).1;omega),fun g c _ hc=>hg.block g (Array.getElem?_eq_some_iff.1 hc).1 (zeu ho he hc)⟩
def SM(bp bl base:Nat)(w:World)(b:Nat):Prop:=b=bp\/b=bl\/(base<=b/\∃ c fz,w.heap[b]?=some (.cells c 24 fz))
def Mv(bp bl base:Nat)(w w':World):Prop:=Moved (SM bp bl base w) w w'
theorem Mv.of{bp bl base:Nat}{w w':World}(h:Below w.heap.size w w'):Mv bp bl base w w':=Moved.of_below h
theorem Mv.refl(bp bl base:Nat)(w:World):Mv bp bl base w w:=Moved.refl _ _
theorem Mv.trans{bp bl base:Nat}{a b c:World}(h:Mv bp bl base a b)(k:Mv bp bl base b c):Mv bp bl base a c:=by
  refine⟨k.os.trans h.os,k.tape.trans h.tape,k.output.trans h.output,Nat.le_trans h.size k.size,fun i hi hs=>?_⟩
  have h1:=h.block i hi hs
  refine(k.block i (Nat.lt_of_lt_of_le hi h.size) fun h2=>hs ?_).trans h1
  rcases h2 with h2 | h2 | ⟨h2,c,fz,h3⟩
  . exact .inl h2
  . exact .inr (.inl h2)
  . exact .inr (.inr ⟨h2,c,fz,h1.symm.trans h3⟩)
theorem Mv.set1{bp bl base:Nat}{w:World}(i:Nat)(u:Value):Mv bp bl base w (w.setCell ⟨bp,i,none⟩ u):=Moved.setCell (Moved.refl _ _) (p:=⟨bp,i,none⟩) (.inl rfl) u
theorem Mv.set2{bp bl base:Nat}{w:World}(i:Nat)(u:Value):Mv bp bl base w (w.setCell ⟨bl,i,none⟩ u):=Moved.setCell (Moved.refl _ _) (p:=⟨bl,i,none⟩) (.inr (.inl rfl)) u
theorem Mv.grown{bp bl base n:Nat}{w w':World}{v:Value}{xs:List Value}(ho:w.ownsRow base 24 2 v n xs)(hg:w.grownBy w' v.ownBlock):Mv bp bl base w w':=
  ⟨hg.os,hg.tape,hg.output,hg.size,fun k hk hs=>hg.block k hk fun e=>hs (by
    obtain⟨c,hc⟩:=zaA ho e.symm
    exact .inr (.inr ⟨(ho.lt k e.symm).1,c,_,hc⟩))⟩
theorem Mv.block{bp bl base:Nat}{w w':World}(h:Mv bp bl base w w'){g:Nat}{t:TypeId}{cs:Array Value}(hw:Whole w g t cs)(ht:t≠24)(h1:g≠bp)(h2:g≠bl):Whole w' g t cs:=
  Moved.whole h hw fun hs=>by
    rcases hs with hs | hs | ⟨_,c,fz,hs⟩
    . exact h1 hs
    . exact h2 hs
    . rw[show w.heap[g]?=_ from hw]at hs
      injection hs with hs
      injection hs with _ hs _
      exact ht hs
theorem Mv.below{bp bl base:Nat}{w w':World}(h:Mv bp bl base w w')(hp:base<=bp)(hl:base<=bl)(hz:base<=w.heap.size):Below base w w':=
  Moved.below h hz fun k hk hs=>by
    rcases hs with hs | hs | ⟨hs,_⟩<;>omega
theorem Mv.keepR{bp bl base:Nat}{w w':World}(h:Mv bp bl base w w'){t1 t2:TypeId}{c1 c2:Array Value}(h1:Whole w bp t1 c1)(h2:Whole w bl t2 c2)(e1:t1≠53)(e2:t2≠53)(hp:base<=bp)(hl:base<=bl)(hz:base<=w.heap.size):KeepR base w w':=
  ⟨h.size,fun b hb=>(h.below hp hl hz).block b hb,fun g c _ hc=>Moved.block h g (Array.getElem?_eq_some_iff.1 hc).1 fun hs=>by
    have key:∀ {t:TypeId} {c':Array Value} {fz:Nat × Nat},w.heap[g]?=some (.cells c' t fz)->t=53:=fun hx=>by
      rw[hc]at hx
      injection hx with hx
      injection hx with _ hx _
      exact hx.symm
    rcases hs with rfl | rfl | ⟨_,c',fz,hs⟩
    . exact e1 (key h1)
    . exact e2 (key h2)
    . exact absurd (key hs) (by decide)⟩
def totL(l:List Ch):Nat:=l.flatten.length
theorem zbx(a b:List Ch):totL (a++ b)=totL a+totL b:=by unfold totL;rw[List.flatten_append,List.length_append]
theorem zsa(c:Ch):totL [c]=c.length:=by unfold totL;simp
structure PS (bp bl base:Nat) (l:List Ch) (w:World):Prop where
  vars:∃ v us,Whole w bp 42 #[v]/\Whole w bl 3 #[.int .i64 (65536 - (totL l:Int))]/\w.ownsRow base 24 2 v us.length (zG us)/\us.map LT.ch=l/\∀ u∈us,PartOk base w u
  pb:base<=bp
  lb:base<=bl
  ne:bp≠bl
theorem PS.lt{bp bl base:Nat}{l:List Ch}{w:World}(h:PS bp bl base l w):bp < w.heap.size/\bl < w.heap.size/\base<=w.heap.size:=by
  obtain⟨v,us,h1,h2,_⟩:=h.vars
  have:=h1.lt
  have:=h2.lt
  have:=h.pb
  exact⟨by omega,by omega,by omega⟩
theorem PS.next{bp bl base:Nat}{l:List Ch}{w w':World}(h:PS bp bl base l w)(hb:Below w.heap.size w w'):PS bp bl base l w':=by
  have hl:=h.lt
  obtain⟨v,us,h1,h2,h3,h4,h5⟩:=h.vars
  exact⟨⟨v,us,h1.below hb h1.lt,h2.below hb h2.lt,zO h3 hb,h4,fun u hu=>(h5 u hu).keep (KeepR.of hb hl.2.2)⟩,h.pb,h.lb,h.ne⟩
theorem zhD:(Tryz.prog.info? 24).map (fun i=>(i.zero,i.size,i.bytes))=some (some (.agg #[.string ⟨#[]⟩,.slice none 0 0]),2,40):=by kernel_rfl
theorem zdz(us:List LT)(u:LT):zG (us++ [u])=zG us++ [.string u.s,.slice u.A u.n u.c]:=by simp [zG]
theorem za7{w:World}{base n g:Nat}{v:Value}{xs:List Value}{t:TypeId}{cs:Array Value}(ho:w.ownsRow base 24 2 v n xs)(hw:Whole w g t cs)(ht:t≠24):v.ownBlock≠some g:=by
  intro h
  obtain⟨c,hc⟩:=zaA ho h
  rw[show w.heap[g]?=_ from hw]at hc
  injection hc with hc
  injection hc with _ hc _
  exact ht hc
theorem zsb{bp bl base z:Nat}{l:List Ch}{w w6 w7:World}{v v':Value}{us:List LT}{u:LT}{q q':Int}(hp:base<=bp)(hl:base<=bl)(hne:bp≠bl)(hz:base<=w.heap.size)
    (h1:Whole w bp 42 #[v]) (h2:Whole w bl 3 #[.int .i64 q]) (h3:w.ownsRow base 24 2 v z (zG us)) (hzu:us.length=z) (h4:us.map LT.ch=l) (h5:∀ u∈us,PartOk base w u) (hu:PartOk base w u)
    (hb6:Below w.heap.size w w6) (h7:w7.ownsRow base 24 2 v' (z+1) (zG us++ [.string u.s,.slice u.A u.n u.c])) (hg:w6.grownBy w7 v.ownBlock) (hq:q'=65536 - (totL (l++ [u.ch]):Int)) :
    PS bp bl base (l++ [u.ch]) ((w7.setCell ⟨bp,0,none⟩ v').setCell ⟨bl,0,none⟩ (.int .i64 q'))/\Mv bp bl base w ((w7.setCell ⟨bp,0,none⟩ v').setCell ⟨bl,0,none⟩ (.int .i64 q')):=by
  have h36:=zO h3 hb6
  have h16:=h1.below hb6 h1.lt
  have h26:=h2.below hb6 h2.lt
  have h17:=h16.grown hg (fun e=>za7 h36 h16 (by decide) e.symm)
  have h27:=h26.grown hg (fun e=>za7 h36 h26 (by decide) e.symm)
  have hm:Mv bp bl base w ((w7.setCell ⟨bp,0,none⟩ v').setCell ⟨bl,0,none⟩ (.int .i64 q')):=(((Mv.of hb6).trans (Mv.grown h36 hg)).trans (Mv.set1 0 v')).trans (Mv.set2 0 _)
  refine⟨⟨⟨v',us++ [u],?_,?_,?_,?_,?_⟩,hp,hl,hne⟩,hm⟩
  . exact(h17.put 0 v').far _ hne _
  . rw[<-hq]
    exact(h27.far ⟨bp,0,none⟩ (fun e=>hne e.symm) v').put 0 _
  . rw[List.length_append,List.length_singleton,hzu,zdz]
    exact zQ (zQ h7 _ (za7 h7 h17 (by decide)) _) _ (za7 h7 h27 (by decide)) _
  . rw[List.map_append,h4]
    rfl
  . intro x hx
    have hk:=hm.keepR h1 h2 (by decide) (by decide) hp hl hz
    rcases List.mem_append.1 hx with hx | hx
    . exact(h5 x hx).keep hk
    . obtain rfl:=List.mem_singleton.1 hx
      exact hu.keep hk
theorem zjQ{bp bl base:Nat}{l:List Ch}(u:LT)(w:World)(h:PS bp bl base l w)(hu:PartOk base w u)(ht:totL l<=65536)(hlen:l.length<=4194304)(hs:u.s.size<=4294967296) :
    Calls Tryz.prog 53 #[.agg #[.string u.s,.slice u.A u.n u.c],.pointer (some ⟨bp,0,none⟩),.pointer (some ⟨bl,0,none⟩)] w fun e w'=>
      e=.returned (.bool (decide (totL (l++ [u.ch])<=65536)))/\PS bp bl base (l++ [u.ch]) w'/\Mv bp bl base w w':=by
  obtain⟨i0,hi,hiz0,hiz1,hiz2⟩:=info_parts zhD
  have hlt:=h.lt
  obtain⟨v,us,h1,h2,h3,h4,h5⟩:=h.vars
  have hzl:us.length<=4194304:=by
    have:=congrArg List.length h4
    rw[List.length_map]at this
    omega
  obtain⟨q,hq⟩:∃ q:Int,65536 - (totL l:Int)=q:=⟨_,rfl⟩
  rw[hq]at h2
  have hq0:0<=q:=by omega
  have hq1:q<=65536:=by omega
  have hs0:(u.s.size:Int)<=4294967296:=by omega
  have hwk:IntKind.i64.wrap (q - (u.s.size:Int))=q - (u.s.size:Int):=IntWalk.i64_in _ (by omega)
  have HTT:Hid (totL (l++ [u.ch])=totL l+u.s.size):=by show _=_;rw[zbx,zsa,LT.ch_length]
  have HQ:Hid (q - (u.s.size:Int)=65536 - (totL (l++ [u.ch]):Int)):=by show _=_;rw[HTT.out];omega
  have HBO:Hid (decide ((u.s.size:Int)<=q)=decide (totL (l++ [u.ch])<=65536)):=by
    show _=_
    have:=HQ.out
    by_cases hd:totL (l++ [u.ch])<=65536
    . rw[decide_eq_true hd,decide_eq_true (by omega)]
    . rw[decide_eq_false hd,decide_eq_false (by omega)]
  obtain⟨A5,c5,rfl,_,_,_⟩:=zg h3
  generalize hw5:w.alloc (.cells #[.string u.s,.slice u.A u.n u.c] 24)=w5
  have y5:Whole w5 w.heap.size 24 #[.string u.s,.slice u.A u.n u.c]:=by rw[<-hw5];exact Whole.made _ _ _
  have hb5:Below w.heap.size w w5:=by rw[<-hw5];exact(Below.refl _ _).alloc (Nat.le_refl _) _
  have c1:w5.cell? ⟨bp,0,none⟩=some (.slice A5 us.length c5):=(h1.below hb5 h1.lt).at_ 0
  have hb6:Below w.heap.size w (w5.alloc (.cells #[.string u.s,.slice u.A u.n u.c] 24)):=zb hb5 (Nat.le_refl _) ((Below.refl _ _).alloc (Nat.le_refl _) _)
  have hown5:=zO h3 hb5
  have e0:w5.cell? ⟨w.heap.size,0,none⟩=some (.string u.s):=y5.at_ 0
  have e1:w5.cell? ⟨w.heap.size,1,none⟩=some (.slice u.A u.n u.c):=y5.at_ 1
  have HFIN:Hid (∀ (v':Value) (w7:World),w7.ownsRow base 24 2 v' (us.length+1) (zG us++ [.string u.s,.slice u.A u.n u.c])->(w5.alloc (.cells #[.string u.s,.slice u.A u.n u.c] 24)).grownBy w7 (Value.slice A5 us.length c5).ownBlock->
      PS bp bl base (l++ [u.ch]) ((w7.setCell ⟨bp,0,none⟩ v').setCell ⟨bl,0,none⟩ (.int .i64 (q - (u.s.size:Int))))/\Mv bp bl base w ((w7.setCell ⟨bp,0,none⟩ v').setCell ⟨bl,0,none⟩ (.int .i64 (q - (u.s.size:Int))))):=fun v' w7 h7 hg=>zsb h.pb h.lb h.ne hlt.2.2 h1 h2 h3 rfl h4 h5 hu hb6 h7 hg HQ.out
  have HX:Hid (∀ (v':Value) (w7:World),w7.ownsRow base 24 2 v' (us.length+1) (zG us++ [.string u.s,.slice u.A u.n u.c])->(w5.alloc (.cells #[.string u.s,.slice u.A u.n u.c] 24)).grownBy w7 (Value.slice A5 us.length c5).ownBlock->
      Whole w7 bp 42 #[.slice A5 us.length c5]/\Whole w7 bl 3 #[.int .i64 q]/\Whole w7 w.heap.size 24 #[.string u.s,.slice u.A u.n u.c]):=fun v' w7 h7 hg=>by
    have h36:=zO h3 hb6
    have h16:=h1.below hb6 h1.lt
    have h26:=h2.below hb6 h2.lt
    exact⟨h16.grown hg (fun e=>za7 h36 h16 (by decide) e.symm),h26.grown hg (fun e=>za7 h36 h26 (by decide) e.symm),(y5.alloc _).grown hg (fun e=>by have:=(h3.lt _ e.symm).2;omega)⟩
  have hzb:base<=w5.heap.size:=Nat.le_trans hlt.2.2 hb5.size
  have hzw:=y5.lt
  have hnbl:bp≠bl:=h.ne
  have hpw:bp≠w.heap.size:=by omega
  have hlw:bl≠w.heap.size:=by omega
  generalize hzz:us.length=z at *
  clear h1 h2 h3 h4 h5 hu h hb5 hb6 y5 hq ht hlen hzz
  have HW:=Lib.hid hlt
  clear hlt hs
  go_enter Tryz.func53,Tryz.ntmps53
  go_wp2_with (at_builtin;refine wpList_append_own_at _ rfl _ _ 42 rfl base 24 i0 _ 2 40 Tryz.underlying42 hi hiz0 hiz1 hiz2 rfl (by decide) (.slice A5 z c5) z _ rfl (hown5.alloc _) ⟨w5.heap.size,0,none⟩ 1 1 [.string u.s,.slice u.A u.n u.c] rfl rfl (zab w5 _ _) (by simp [Value.oneCell']) (by simp only[maxLen];omega) (by omega) (by simp;omega) ?_)
  intro v' w7 hown7 hgrow _ _
  obtain⟨x1,x2,x3⟩:=HX.out v' w7 hown7 hgrow
  have HF:=Lib.hid (HFIN.out v' w7 hown7 hgrow)
  have k1:w7.cell? ⟨bp,0,none⟩=some (.slice A5 z c5):=x1.at_ 0
  have f1:=x1.free 0
  have k2:w7.cell? ⟨bl,0,none⟩=some (.int .i64 q):=x2.at_ 0
  have f2:=x2.free 0
  have k3:w7.cell? ⟨w.heap.size,0,none⟩=some (.string u.s):=x3.at_ 0
  obtain⟨A7,d7,rfl,_,_,_⟩:=zg hown7
  clear x1 x2 x3 hown7 hgrow c1 e0 e1 hw5 HX HFIN
  go_wp2_with fail
  go_ret
  exact⟨zB HBO.out,HF.out⟩
theorem zeR{w w2:World}{l:Ch}{t:LT}{g:Nat}(hg:w.heap.size<=g)(hch:t.ch=l)(ho:OwnL w2 (g+1) t)(hb:Below w.heap.size w w2) :
    zcT l w (.returned (.agg #[.string t.s,.slice t.A t.n t.c])) ((w2.setCell ⟨g,0,none⟩ (.string t.s)).setCell ⟨g,1,none⟩ (.slice t.A t.n t.c)):=by
  refine⟨t,rfl,⟨hch,ho.1,ho.2.1,ho.2.2.1,zD (base:=g+1) (zQ (zQ ho.2.2.2 _ (fun h=>?_) _) _ (fun h=>?_) _) (by omega)⟩,(hb.setCell hg _).setCell hg _⟩
  . have:=(ho.2.2.2.lt _ h).1;simp at this;omega
  . have:=(ho.2.2.2.lt _ h).1;simp at this;omega
theorem ztR(w:World)(base:Nat):OwnL w base noT:=⟨rfl,⟨Nat.zero_le _,by show([]:List (Int × Int))=comp (noT.ch.map (·.2));rw[zlH];rfl⟩,Nat.zero_le _,World.ownsRow_nil _ _ _ _⟩
theorem zkV{w w2:World}{g:Nat}(hg:w.heap.size<=g)(hb:Below w.heap.size w w2) :
    zcT [] w (.returned (.agg #[.string ⟨#[]⟩,.slice none 0 0])) ((w2.setCell ⟨g,0,none⟩ (.string ⟨#[]⟩)).setCell ⟨g,1,none⟩ (.slice none 0 0)):=
  zeR (t:=noT) hg zlH (ztR w2 (g+1)) hb
structure TKE (w:World) (b r:Nat) (c:Array Value) (w':World):Prop where
  h1:Whole w' b 48 c
  bel:Below w.heap.size w w'
  n1:b≠r
  nr:w.heap.size<=r
theorem TKE.keep{w w' w'':World}{b r:Nat}{c:Array Value}(h:TKE w b r c w')(hb:Below w'.heap.size w' w''):TKE w b r c w'':=
  ⟨h.h1.below hb h.h1.lt,zb h.bel (Nat.le_refl _) hb,h.n1,h.nr⟩
theorem TKE.put{w w':World}{b r:Nat}{c:Array Value}(h:TKE w b r c w')(u v:Value):TKE w b r c ((w'.setCell ⟨r,0,none⟩ u).setCell ⟨r,1,none⟩ v):=
  ⟨(h.h1.far _ h.n1 _).far _ h.n1 _,(h.bel.setCell h.nr _).setCell h.nr _,h.n1,h.nr⟩
theorem zdr(s:ByteArray)(l:Ch)(w:World)(hs:s.size<=4294967296)(hl:(s.data.toList.map fun b=>((b,(0:Int)):UInt8 × Int))=l) :
    Calls Tryz.prog 130 #[.string s] w fun e w'=>∃ t:LT,e=.returned (.agg #[.string s,.slice t.A t.n t.c])/\Hid (t.s=s/\t.ch=l/\OwnL w' w.heap.size t)/\Below w.heap.size w w':=by
  subst hl
  exact zgP s w hs
theorem ztS(t:TT)(w:World)(h:TreeIn w t) :
    Calls Tryz.prog 91 #[.agg #[.string t.tag.s,.slice t.tag.A t.tag.n t.tag.c,.slice t.A t.n t.c,.slice t.K t.kn t.kc,.string t.text.s,.slice t.text.A t.text.n t.text.c]] w (zcT (endH t.tag.ch) w):=by
  have HT:=Lib.hid h
  have HE:=Lib.hid (zaZ t)
  have HV:=Lib.hid (zgq t.tag.s)
  have hel:=zeO t
  have HR:Hid (endH t.tag.ch=if elH t then (if zbF t.tag.s.data.toList then [] else [(60,0),(47,0)]++ t.tag.ch++ [(62,0)]) else []):=by
    show _=_
    unfold endH
    rw[hel,LT.ch_fst]
    by_cases ht:t.tag.ch=[]
    . simp [ht]
    . rw[decide_eq_false ht]
      simp only[Bool.not_false,if_true]
      by_cases hv:zbF t.tag.bs=true
      . rw[if_pos (.inr hv),if_pos (show zbF t.tag.s.data.toList=true from hv)]
      . rw[if_neg (fun h=>h.elim ht hv),if_neg (show ¬ zbF t.tag.s.data.toList=true from hv)]
  have hts:=h.tag
  clear h hel
  go_enter Tryz.func91,Tryz.ntmps91
  generalize hw5:(w.alloc (.cells #[.string t.tag.s,.slice t.tag.A t.tag.n t.tag.c,.slice t.A t.n t.c,.slice t.K t.kn t.kc,.string t.text.s,.slice t.text.A t.text.n t.text.c] 48)).alloc (.cells #[.string ⟨#[]⟩,.slice none 0 0] 24)=w5
  have y5:Whole w5 w.heap.size 48 #[.string t.tag.s,.slice t.tag.A t.tag.n t.tag.c,.slice t.A t.n t.c,.slice t.K t.kn t.kc,.string t.text.s,.slice t.text.A t.text.n t.text.c]:=by rw[<-hw5];exact(Whole.made _ _ _).alloc _
  have z5:Whole w5 (w.heap.size+1) 24 #[.string ⟨#[]⟩,.slice none 0 0]:=by
    rw[<-hw5]
    have h:=Whole.made (w.alloc (.cells #[.string t.tag.s,.slice t.tag.A t.tag.n t.tag.c,.slice t.A t.n t.c,.slice t.K t.kn t.kc,.string t.text.s,.slice t.text.A t.text.n t.text.c] 48)) 24 #[.string ⟨#[]⟩,.slice none 0 0]
    simp only[World.size_alloc]at h
    exact h
  have hb5:Below w.heap.size w w5:=by rw[<-hw5];exact((Below.refl _ _).alloc (Nat.le_refl _) _).alloc (by simp) _
  have e0:w5.cell? ⟨w.heap.size,0,none⟩=some (.string t.tag.s):=y5.at_ 0
  have e1:w5.cell? ⟨w.heap.size,1,none⟩=some (.slice t.tag.A t.tag.n t.tag.c):=y5.at_ 1
  have e2:w5.cell? ⟨w.heap.size,2,none⟩=some (.slice t.A t.n t.c):=y5.at_ 2
  have e3:w5.cell? ⟨w.heap.size,3,none⟩=some (.slice t.K t.kn t.kc):=y5.at_ 3
  have e4:w5.cell? ⟨w.heap.size,4,none⟩=some (.string t.text.s):=y5.at_ 4
  have e5:w5.cell? ⟨w.heap.size,5,none⟩=some (.slice t.text.A t.text.n t.text.c):=y5.at_ 5
  go_wp2_with fail
  clear hw5
  refine(HE.out w5).mono ?_
  rintro e w6 ⟨rfl,hb6⟩
  have y6:=y5.below hb6 y5.lt
  have z6:=z5.below hb6 z5.lt
  have hb:=zb hb5 (Nat.le_refl _) hb6
  have r0:w6.cell? ⟨w.heap.size+1,0,none⟩=some (.string ⟨#[]⟩):=z6.at_ 0
  have r1:w6.cell? ⟨w.heap.size+1,1,none⟩=some (.slice none 0 0):=z6.at_ 1
  have f0:=z6.free 0
  have f1:=z6.free 1
  clear e0 e1 e2 e3 e4 e5
  cases hq:elH t with
  | false=>
    rw[hq,if_neg (by decide)]at HR
    clear hq
    go_wp2_with fail
    refine bodyPost_ret (v:=.agg #[.string ⟨#[]⟩,.slice none 0 0]) ?_ rfl ?_
    . simp [results,Tryz.results91,go_sem,r0,r1]
    . rw[HR.out]
      exact zkV (by omega) hb
  | true=>
    rw[hq,if_pos rfl]at HR
    clear hq
    have d0:w6.cell? ⟨w.heap.size,0,none⟩=some (.string t.tag.s):=y6.at_ 0
    go_wp2_with fail
    refine(HV.out w6).mono ?_
    rintro e w7 ⟨rfl,rfl⟩
    cases hq:zbF t.tag.s.data.toList with
    | true=>
      rw[hq,if_pos rfl]at HR
      clear hq
      go_wp2_with fail
      refine bodyPost_ret (v:=.agg #[.string ⟨#[]⟩,.slice none 0 0]) ?_ rfl ?_
      . simp [results,Tryz.results91,go_sem,r0,r1]
      . rw[HR.out]
        exact zkV (by omega) hb
    | false=>
      rw[hq,if_neg (by decide)]at HR
      clear hq
      have HB6:=Lib.hid hb
      have HK0:Hid (TKE w w.heap.size (w.heap.size+1) #[.string t.tag.s,.slice t.tag.A t.tag.n t.tag.c,.slice t.A t.n t.c,.slice t.K t.kn t.kc,.string t.text.s,.slice t.text.A t.text.n t.text.c] w6):=⟨y6,hb,by omega,by omega⟩
      have HKS:Hid (∀ w',TKE w w.heap.size (w.heap.size+1) #[.string t.tag.s,.slice t.tag.A t.tag.n t.tag.c,.slice t.A t.n t.c,.slice t.K t.kn t.kc,.string t.text.s,.slice t.text.A t.text.n t.text.c] w'->(w'.cell? ⟨w.heap.size,0,none⟩=some (.string t.tag.s)/\w'.cell? ⟨w.heap.size,1,none⟩=some (.slice t.tag.A t.tag.n t.tag.c)/\TKE w w.heap.size (w.heap.size+1) #[.string t.tag.s,.slice t.tag.A t.tag.n t.tag.c,.slice t.A t.n t.c,.slice t.K t.kn t.kc,.string t.text.s,.slice t.text.A t.text.n t.text.c] w')):=fun w' h=>⟨h.h1.at_ 0,h.h1.at_ 1,h⟩
      have HO1:Hid (∀ w',Calls Tryz.prog 130 #[.string ⟨#[60,47]⟩] w' fun e w''=>∃ t:LT,e=.returned (.agg #[.string ⟨#[60,47]⟩,.slice t.A t.n t.c])/\Hid (t.s=⟨#[60,47]⟩/\t.ch=[(60,0),(47,0)]/\OwnL w'' w'.heap.size t)/\Below w'.heap.size w' w''):=fun w'=>zdr _ _ w' (by show(2:Nat)<=_;omega) rfl
      have HO2:Hid (∀ w',Calls Tryz.prog 130 #[.string ⟨#[62]⟩] w' fun e w''=>∃ t:LT,e=.returned (.agg #[.string ⟨#[62]⟩,.slice t.A t.n t.c])/\Hid (t.s=⟨#[62]⟩/\t.ch=[(62,0)]/\OwnL w'' w'.heap.size t)/\Below w'.heap.size w' w''):=fun w'=>zdr _ _ w' (by show(1:Nat)<=_;omega) rfl
      have HCA:Hid (∀ (w':World) (g:Nat) (a b:LT),Below w6.heap.size w6 w'->a.ok w' w'.heap.size->b.ok w' w'.heap.size->a.s=⟨#[60,47]⟩->b.s=⟨#[62]⟩->a.ch=[(60,0),(47,0)]->b.ch=[(62,0)]->Whole w' g 24 (List.toArray [.string ⟨#[60,47]⟩,.slice a.A a.n a.c,.string t.tag.s,.slice t.tag.A t.tag.n t.tag.c,.string ⟨#[62]⟩,.slice b.A b.n b.c])->Calls Tryz.prog 54 #[.slice (some ⟨g,0,none⟩) 3 3] w' (zcT (endH t.tag.ch) w')):=fun w' g a b hb ha hbk has hbs hac hbc hW=>by
        rw[<-has,<-hbs]at hW
        have hto:=((HT.out.next HB6.out).next hb).self.tag.ok
        have h:=ziq [a,t.tag,b] (some ⟨g,0,none⟩) 3 3 w' (zct hW) rfl (by omega) (fun x hx=>by
          simp only[List.mem_cons,List.not_mem_nil,or_false]at hx
          rcases hx with rfl | rfl | rfl
          . exact ha
          . exact hto
          . exact hbk) (by
          simp only[zS,List.flatMap_cons,List.flatMap_nil,List.length_append,hac,hbc,LT.ch_length,List.length_cons,List.length_nil]
          omega)
        have e:zS [a,t.tag,b]=endH t.tag.ch:=by
          rw[HR.out]
          simp only[zS,List.flatMap_cons,List.flatMap_nil,List.append_nil,hac,hbc,List.append_assoc]
        rw[e]at h
        exact h
      clear hb y6 hts
      obtain⟨d0,d1,_⟩:=HKS.out _ HK0.out
      go_wp2_with fail
      go_region_held3 (fun w'=>w'.cell? ⟨w.heap.size,0,none⟩=some (.string t.tag.s)/\w'.cell? ⟨w.heap.size,1,none⟩=some (.slice t.tag.A t.tag.n t.tag.c)/\TKE w w.heap.size (w.heap.size+1) #[.string t.tag.s,.slice t.tag.A t.tag.n t.tag.c,.slice t.A t.n t.c,.slice t.K t.kn t.kc,.string t.text.s,.slice t.text.A t.text.n t.text.c] w')
        (first
          | exact HKS.out _ (HK0.out.keep (Below.drew (Below.refl _ _)))
          | exact HKS.out _ hK
          | (go_split_ands;exact HKS.out _ (by assumption))
          | (go_split_ands;exact HKS.out _ (TKE.keep (by assumption) ((Below.refl _ _).alloc (Nat.le_refl _) _)))
          | (go_split_ands;exact HKS.out _ (TKE.put (by assumption) _ _)))
        (first
          | (go_at_call_of 130 (ByteArray.mk #[60,47]);refine(HO1.out _).mono ?_;rintro e w7 ⟨a,rfl,ha,hb7⟩;have HB7:=Lib.hid (zb (Below.drew (Below.refl w6.heap.size w6)) (Nat.le_refl _) hb7);have hK:TKE w w.heap.size (w.heap.size+1) #[.string t.tag.s,.slice t.tag.A t.tag.n t.tag.c,.slice t.A t.n t.c,.slice t.K t.kn t.kc,.string t.text.s,.slice t.text.A t.text.n t.text.c] w7:=(by go_split_ands;exact TKE.keep (by assumption) hb7);clear hb7)
          | (go_at_call_of 130 (ByteArray.mk #[62]);refine(HO2.out _).mono ?_;rintro e w8 ⟨b,rfl,hbb,hb8⟩;have HA8:=Lib.hid (ha.out.2.2.ok.next hb8 (Nat.le_refl _));have HB8:=Lib.hid (zb HB7.out (Nat.le_refl _) hb8);have hK:TKE w w.heap.size (w.heap.size+1) #[.string t.tag.s,.slice t.tag.A t.tag.n t.tag.c,.slice t.A t.n t.c,.slice t.K t.kn t.kc,.string t.text.s,.slice t.text.A t.text.n t.text.c] w8:=(by go_split_ands;exact TKE.keep (by assumption) hb8);clear hb8)
          | (go_at_call 54;refine(HCA.out _ _ a b (zb HB8.out (Nat.le_refl _) ((Below.refl _ _).alloc (Nat.le_refl _) _)) (HA8.out.next ((Below.refl _ _).alloc (Nat.le_refl _) _) (Nat.le_refl _)) (hbb.out.2.2.ok.next ((Below.refl _ _).alloc (Nat.le_refl _) _) (Nat.le_refl _)) ha.out.1 hbb.out.1 ha.out.2.1 hbb.out.2.1 (Whole.made _ _ _)).mono ?_;rintro e w9 ⟨c,rfl,hc,hb9⟩;have HB9:=Lib.hid hb9;have hW9:Whole w9 (w.heap.size+1) 24 #[.string ⟨#[]⟩,.slice none 0 0]:=(((z6.below HB8.out z6.lt).alloc _).below HB9.out (Whole.lt ((z6.below HB8.out z6.lt).alloc _)));have q0:w9.cell? ⟨w.heap.size+1,0,none⟩=some (.string ⟨#[]⟩):=hW9.at_ 0;have q1:w9.cell? ⟨w.heap.size+1,1,none⟩=some (.slice none 0 0):=hW9.at_ 1;have g0:=hW9.free 0;have g1:=hW9.free 1;have hK:TKE w w.heap.size (w.heap.size+1) #[.string t.tag.s,.slice t.tag.A t.tag.n t.tag.c,.slice t.A t.n t.c,.slice t.K t.kn t.kc,.string t.text.s,.slice t.text.A t.text.n t.text.c] w9:=(by go_split_ands;exact TKE.keep (by assumption) hb9);clear hb9))
      all_goals
        have hz8:=HB8.out.size
        have hz6:=z6.lt
        have hbF:=hK.bel
        go_wp2
        refine bodyPost_ret (v:=.agg #[.string c.s,.slice c.A c.n c.c]) ?_ rfl ?_
        . simp [results,Tryz.results91,go_sem,q0,q1]
        . exact zeR (g:=w.heap.size+1) (by omega) hc.out.1 (hc.out.2.mono (by simp;omega)) hbF
theorem zgy(us:List LT)(u:LT):zS (us++ [u])=zS us++ u.ch:=by simp [zS]
structure StP (w5:World) (bA:Nat) (vA:Value) (ats:List AT) (us:List LT) (v:Value) (w:World):Prop where
  parts:w.ownsRow w5.heap.size 24 2 v us.length (zG us)
  oks:∀ u∈us,PartOk w5.heap.size w u
  bel:Below w5.heap.size w5 w
  row:w.ownsRow bA 93 4 vA ats.length (zm ats)
  own:AllOwn w bA ats
  le:w5.heap.size<=bA
theorem StP.next{w5 w w':World}{bA:Nat}{vA v:Value}{ats:List AT}{us:List LT}(h:StP w5 bA vA ats us v w)(hb:Below w.heap.size w w'):StP w5 bA vA ats us v w':=
  ⟨zO h.parts hb,fun u hu=>(h.oks u hu).keep (KeepR.of hb h.bel.size),zb h.bel (Nat.le_refl _) hb,zO h.row hb,h.own.below hb,h.le⟩
theorem StP.grow{w5 w w6 w7:World}{bA z:Nat}{vA v v':Value}{ats:List AT}{us:List LT}{p:LT}(h:StP w5 bA vA ats us v w)(hz:us.length=z)(hb:Below w.heap.size w w6)(hp:OwnL w6 w5.heap.size p)
    (h7:w7.ownsRow w5.heap.size 24 2 v' (z+1) (zG us++ [.string p.s,.slice p.A p.n p.c])) (hg:w6.grownBy w7 v.ownBlock):StP w5 bA vA ats (us++ [p]) v' w7:=by
  have h6:=h.next hb
  have hk:KeepR w5.heap.size w6 w7:=KeepR.grown h6.parts (by decide) (Nat.le_refl _) hg h6.bel.size
  refine⟨?_,?_,h6.bel.grown hg h6.bel.size (fun k hk=>(h6.parts.lt k hk).1),znn h6.row h6.parts (by decide) hg,fun a ha=>(h6.own a ha).grown h6.parts (by decide) hg,h.le⟩
  . rw[List.length_append,List.length_singleton,hz,zdz]
    exact h7
  . intro u hu
    rcases List.mem_append.1 hu with hu | hu
    . exact(h6.oks u hu).keep hk
    . obtain rfl:=List.mem_singleton.1 hu
      exact PartOk.keep (.inl hp) hk
def zuY(w5:World)(bA:Nat)(vA:Value)(ats:List AT)(tag:Ch)(n:Nat)(v i:Value)(wr:World):Prop:=
  ∃ (k:Nat) (us:List LT),k<=n/\i=.int .i64 (k:Int)/\us.length=k+2/\zS us=[(60,0)]++ tag++ zax ((ats.map AT.ch).take k)/\StP w5 bA vA ats us v wr
theorem zpZ(t:TT)(al:List PA):zaa t.tag.ch al=if elH t then [(60,0)]++ t.tag.ch++ zax (zH al)++ [(62,0)] else []:=by
  have hel:=zeO t
  unfold zaa
  rw[hel]
  by_cases ht:t.tag.ch=[]
  . simp [ht]
  . rw[if_neg ht,decide_eq_false ht]
    rfl
theorem ztT{L:List PA}{x:PA}(h:x∈L):x.1.length+x.2.length+1<=atWs L:=by
  induction L with
  | nil=>cases h
  | cons a L ih=>
    rw[zgo]
    rcases List.mem_cons.1 h with rfl | h
    . omega
    . have:=ih h;omega
theorem zp0(t:TT)(w:World)(h:TreeIn w t)(hsz:t.ch.sz<=1048576) :
    Calls Tryz.prog 89 #[.agg #[.string t.tag.s,.slice t.tag.A t.tag.n t.tag.c,.slice t.A t.n t.c,.slice t.K t.kn t.kc,.string t.text.s,.slice t.text.A t.text.n t.text.c]] w (zcT (zaa t.tag.ch (t.atts.map AT.ch)) w):=by
  obtain⟨i0,hi,hiz0,hiz1,hiz2⟩:=info_parts zhD
  have HT:=Lib.hid h
  have HE:=Lib.hid (zaZ t)
  have HR:=Lib.hid (zpZ t (t.atts.map AT.ch))
  have HAW:Hid (atWs (t.atts.map AT.ch)<=1048576/\t.tag.ch.length<=1048576):=by
    have h1:=t.ch.sz_eq
    rw[TT.ch_attrs,TT.ch_tag]at h1
    exact⟨by omega,by omega⟩
  clear h hsz
  go_enter Tryz.func89,Tryz.ntmps89
  generalize hw5:(w.alloc (.cells #[.string t.tag.s,.slice t.tag.A t.tag.n t.tag.c,.slice t.A t.n t.c,.slice t.K t.kn t.kc,.string t.text.s,.slice t.text.A t.text.n t.text.c] 48)).alloc (.cells #[.string ⟨#[]⟩,.slice none 0 0] 24)=w5
  have y5:Whole w5 w.heap.size 48 #[.string t.tag.s,.slice t.tag.A t.tag.n t.tag.c,.slice t.A t.n t.c,.slice t.K t.kn t.kc,.string t.text.s,.slice t.text.A t.text.n t.text.c]:=by rw[<-hw5];exact(Whole.made _ _ _).alloc _
  have z5:Whole w5 (w.heap.size+1) 24 #[.string ⟨#[]⟩,.slice none 0 0]:=by
    rw[<-hw5]
    have h:=Whole.made (w.alloc (.cells #[.string t.tag.s,.slice t.tag.A t.tag.n t.tag.c,.slice t.A t.n t.c,.slice t.K t.kn t.kc,.string t.text.s,.slice t.text.A t.text.n t.text.c] 48)) 24 #[.string ⟨#[]⟩,.slice none 0 0]
    simp only[World.size_alloc]at h
    exact h
  have hz5:w5.heap.size=w.heap.size+2:=by rw[<-hw5];simp
  have hb5:Below w.heap.size w w5:=by rw[<-hw5];exact((Below.refl _ _).alloc (Nat.le_refl _) _).alloc (by simp) _
  have HZ5:=Lib.hid hz5
  have HB5:=Lib.hid hb5
  have Z5:=Lib.hid z5
  have Y5:=Lib.hid y5
  have e0:w5.cell? ⟨w.heap.size,0,none⟩=some (.string t.tag.s):=y5.at_ 0
  have e1:w5.cell? ⟨w.heap.size,1,none⟩=some (.slice t.tag.A t.tag.n t.tag.c):=y5.at_ 1
  have e2:w5.cell? ⟨w.heap.size,2,none⟩=some (.slice t.A t.n t.c):=y5.at_ 2
  have e3:w5.cell? ⟨w.heap.size,3,none⟩=some (.slice t.K t.kn t.kc):=y5.at_ 3
  have e4:w5.cell? ⟨w.heap.size,4,none⟩=some (.string t.text.s):=y5.at_ 4
  have e5:w5.cell? ⟨w.heap.size,5,none⟩=some (.slice t.text.A t.text.n t.text.c):=y5.at_ 5
  go_wp2_with fail
  clear hw5 hb5 z5 y5 hz5
  refine(HE.out w5).mono ?_
  rintro e w6 ⟨rfl,hb6⟩
  have HB6:=Lib.hid hb6
  clear e0 e1 e2 e3 e4 e5 hb6
  cases hq:elH t with
  | false=>
    rw[hq,if_neg (by decide)]at HR
    have z6:=Z5.out.below HB6.out Z5.out.lt
    have r0:w6.cell? ⟨w.heap.size+1,0,none⟩=some (.string ⟨#[]⟩):=z6.at_ 0
    have r1:w6.cell? ⟨w.heap.size+1,1,none⟩=some (.slice none 0 0):=z6.at_ 1
    have f0:=z6.free 0
    have f1:=z6.free 1
    have hb:=zb HB5.out (Nat.le_refl _) HB6.out
    clear hq
    go_wp2_with fail
    refine bodyPost_ret (v:=.agg #[.string ⟨#[]⟩,.slice none 0 0]) ?_ rfl ?_
    . simp [results,Tryz.results89,go_sem,r0,r1]
    . rw[HR.out]
      exact zkV (by omega) hb
  | true=>
    rw[hq,if_pos rfl]at HR
    clear hq
    have HK0:Hid (TKE w w.heap.size (w.heap.size+1) #[.string t.tag.s,.slice t.tag.A t.tag.n t.tag.c,.slice t.A t.n t.c,.slice t.K t.kn t.kc,.string t.text.s,.slice t.text.A t.text.n t.text.c] w6):=⟨Y5.out.below HB6.out Y5.out.lt,zb HB5.out (Nat.le_refl _) HB6.out,by omega,by omega⟩
    have HKS:Hid (∀ w',TKE w w.heap.size (w.heap.size+1) #[.string t.tag.s,.slice t.tag.A t.tag.n t.tag.c,.slice t.A t.n t.c,.slice t.K t.kn t.kc,.string t.text.s,.slice t.text.A t.text.n t.text.c] w'->(w'.cell? ⟨w.heap.size,0,none⟩=some (.string t.tag.s)/\w'.cell? ⟨w.heap.size,1,none⟩=some (.slice t.tag.A t.tag.n t.tag.c)/\TKE w w.heap.size (w.heap.size+1) #[.string t.tag.s,.slice t.tag.A t.tag.n t.tag.c,.slice t.A t.n t.c,.slice t.K t.kn t.kc,.string t.text.s,.slice t.text.A t.text.n t.text.c] w')):=fun w' h=>⟨h.h1.at_ 0,h.h1.at_ 1,h⟩
    have HO1:Hid (∀ w',Calls Tryz.prog 130 #[.string ⟨#[60]⟩] w' fun e w''=>∃ t:LT,e=.returned (.agg #[.string ⟨#[60]⟩,.slice t.A t.n t.c])/\Hid (t.s=⟨#[60]⟩/\t.ch=[(60,0)]/\OwnL w'' w'.heap.size t)/\Below w'.heap.size w' w''):=fun w'=>zdr _ _ w' (by show(1:Nat)<=_;omega) rfl
    have HO2:Hid (∀ w',Calls Tryz.prog 130 #[.string ⟨#[62]⟩] w' fun e w''=>∃ t:LT,e=.returned (.agg #[.string ⟨#[62]⟩,.slice t.A t.n t.c])/\Hid (t.s=⟨#[62]⟩/\t.ch=[(62,0)]/\OwnL w'' w'.heap.size t)/\Below w'.heap.size w' w''):=fun w'=>zdr _ _ w' (by show(1:Nat)<=_;omega) rfl
    obtain⟨d0,d1,_⟩:=HKS.out _ HK0.out
    go_wp2_with fail
    go_region_held3 (fun w'=>w'.cell? ⟨w.heap.size,0,none⟩=some (.string t.tag.s)/\w'.cell? ⟨w.heap.size,1,none⟩=some (.slice t.tag.A t.tag.n t.tag.c)/\TKE w w.heap.size (w.heap.size+1) #[.string t.tag.s,.slice t.tag.A t.tag.n t.tag.c,.slice t.A t.n t.c,.slice t.K t.kn t.kc,.string t.text.s,.slice t.text.A t.text.n t.text.c] w')
      (first
        | exact HKS.out _ (HK0.out.keep (Below.drew (Below.refl _ _)))
        | exact HKS.out _ hK
        | (go_split_ands;exact HKS.out _ (by assumption))
        | (go_split_ands;exact HKS.out _ (TKE.keep (by assumption) ((Below.refl _ _).alloc (Nat.le_refl _) _)))
        | (go_split_ands;exact HKS.out _ (TKE.put (by assumption) _ _)))
      (first
        | (go_at_call 130;refine(HO1.out _).mono ?_;rintro e w7 ⟨a,rfl,ha,hb7⟩;have HB7:=Lib.hid (zb (Below.drew (Below.refl w6.heap.size w6)) (Nat.le_refl _) hb7);have HAO:=Lib.hid (ha.out.2.2);have hK:TKE w w.heap.size (w.heap.size+1) #[.string t.tag.s,.slice t.tag.A t.tag.n t.tag.c,.slice t.A t.n t.c,.slice t.K t.kn t.kc,.string t.text.s,.slice t.text.A t.text.n t.text.c] w7:=(by go_split_ands;exact TKE.keep (by assumption) hb7);clear hb7))
    all_goals
      generalize hw8:w7.alloc (.cells #[.string ⟨#[60]⟩,.slice a.A a.n a.c,.string t.tag.s,.slice t.tag.A t.tag.n t.tag.c] 24)=w8
      have hb8:Below w7.heap.size w7 w8:=by rw[<-hw8];exact(Below.refl _ _).alloc (Nat.le_refl _) _
      have hb57:Below w5.heap.size w5 w7:=zb HB6.out (Nat.le_refl _) HB7.out
      have HB8:Hid (Below w5.heap.size w5 w8):=zb hb57 (Nat.le_refl _) hb8
      have HRW:Hid (w8.ownsRow w5.heap.size 24 2 (.slice (some ⟨w7.heap.size,0,none⟩) 2 2) 2 (zG [a,t.tag])):=by
        rw[<-hw8]
        have h:=World.ownsRow_lit (base:=w5.heap.size) (e:=24) (size:=2) w7 #[.string ⟨#[60]⟩,.slice a.A a.n a.c,.string t.tag.s,.slice t.tag.A t.tag.n t.tag.c] 2 hb57.size (by simp [maxLen]) rfl
        have e:zG [a,t.tag]=[.string ⟨#[60]⟩,.slice a.A a.n a.c,.string t.tag.s,.slice t.tag.A t.tag.n t.tag.c]:=by simp [zG,ha.out.1]
        rw[e]
        exact h
      have HPO:Hid (∀ u∈[a,t.tag],PartOk w5.heap.size w8 u):=by
        intro u hu
        have hk8:=KeepR.of hb8 (Nat.le_trans hb57.size (Nat.le_refl _))
        simp only[List.mem_cons,List.not_mem_nil,or_false]at hu
        rcases hu with rfl | rfl
        . exact PartOk.keep (.inl (HAO.out.mono HB6.out.size)) hk8
        . refine .inr (((HT.out.self.tag.ok).next (HB5.out) (Nat.le_refl _)).keep fun p hp=>?_)
          exact HB8.out.cell hp
      have HTI:=Lib.hid (((HT.out.next HB5.out).next HB8.out))
      have y8:Whole w8 w.heap.size 48 #[.string t.tag.s,.slice t.tag.A t.tag.n t.tag.c,.slice t.A t.n t.c,.slice t.K t.kn t.kc,.string t.text.s,.slice t.text.A t.text.n t.text.c]:=Y5.out.below HB8.out Y5.out.lt
      have e2:w8.cell? ⟨w.heap.size,2,none⟩=some (.slice t.A t.n t.c):=y8.at_ 2
      have HAC:=Lib.hid ha.out.2.1
      clear hb8 hb57 y8 hw8 hK
      go_wp2_with fail
      refine(zd6 t.A t.n t.c t.atts w8 HTI.out.self.att.lies (fun x hx=>(HTI.out.self.atts x hx).ok) HTI.out.self.an (by have:=HTI.out.self.am;omega)).mono ?_
      rintro e w9 ⟨A9,c9,ats,rfl,hro,hao,hch,hb9⟩
      have HCH:=Lib.hid hch
      have hal:ats.length<=1048576:=by
        have h1:=congrArg List.length hch
        rw[List.length_map]at h1
        have h2:=zdD (zbm (t.atts.map AT.ch)) (t.atts.map AT.ch)
        have h3:(zH (t.atts.map AT.ch)).length=(sel (zbm (t.atts.map AT.ch)) (t.atts.map AT.ch)).length:=rfl
        rw[List.length_map]at h2
        have h4:=HTI.out.self.am
        have h5:=HTI.out.self.an
        omega
      have HST:Hid (StP w5 w8.heap.size (.slice A9 ats.length c9) ats [a,t.tag] (.slice (some ⟨w7.heap.size,0,none⟩) 2 2) w9):=
        ⟨zO HRW.out hb9,fun u hu=>(HPO.out u hu).keep (KeepR.of hb9 HB8.out.size),zb HB8.out (Nat.le_refl _) hb9,hro,hao,HB8.out.size⟩
      have HSI:Hid (∀ (k:Nat) (x:AT),ats[k]?=some x->x.vl.s.size<=1048576/\x.nm.s.size<=1048576):=by
        intro k x hx
        have h1:x.ch∈zH (t.atts.map AT.ch):=by rw[<-HCH.out];exact List.mem_map.2 ⟨x,List.mem_of_getElem? hx,rfl⟩
        have h2:=ztT (zcA h1)
        have h3:x.ch.1.length=x.nm.s.size:=LT.ch_length _
        have h4:x.ch.2.length=x.vl.s.size:=LT.ch_length _
        have:=HAW.out.1
        exact⟨by omega,by omega⟩
      have HNL:Hid ((ats.map AT.ch).length=ats.length):=List.length_map ..
      clear hro hao hch hb9 e2
      generalize hnn:ats.length=n at *
      have HNN:=Lib.hid hnn
      clear hnn
      go_wp2_with fail
      go_loopw [3,18] (zuY w5 w8.heap.size (.slice A9 n c9) ats t.tag.ch n) (fun _ i _=>n - (intOf i).toNat)
      case atStart=>exact⟨0,[a,t.tag],Nat.zero_le _,rfl,rfl,by simp [zS,HAC.out,zax],HST.out⟩
      case round=>
        obtain⟨k,us,hk,rfl,hul,hcat,hst⟩:=hrel
        have hparts:=hst.parts
        obtain⟨A5,c5,rfl,_,_,_⟩:=zg hparts
        have HP:=Lib.hid hst
        have HCAT:=Lib.hid hcat
        have HUL:=Lib.hid hul
        rw[hul]at hparts ⊢
        clear hst hcat hul
        by_cases hlt:k < n
        . have hrow:=HP.out.row
          rw[HNN.out]at hrow
          obtain⟨ad,x,hA,hbA,d0,d1,d2,d3,HX⟩:=(Lies.own hrow).att (k:=k) (by rw[HNN.out];exact hlt)
          subst hA
          clear hrow
          have hk0:(0:Int)<=(k:Int):=Int.natCast_nonneg _
          have hk1:(k:Int) < (n:Int):=by omega
          have HXI:=Lib.hid (HSI.out k x HX.out)
          have HOX:Hid (OwnA wr w8.heap.size x):=HP.out.own x (List.mem_of_getElem? HX.out)
          have HNX:Hid (zax ((ats.map AT.ch).take (k+1))=zax ((ats.map AT.ch).take k)++ zcu x.nm.ch x.vl.ch):=zkE (zd4 HX.out)
          generalize hw10:wr.alloc (.cells #[.string x.nm.s,.slice x.nm.A x.nm.n x.nm.c,.string x.vl.s,.slice x.vl.A x.vl.n x.vl.c] 93)=w10
          have y10:Whole w10 wr.heap.size 93 #[.string x.nm.s,.slice x.nm.A x.nm.n x.nm.c,.string x.vl.s,.slice x.vl.A x.vl.n x.vl.c]:=by rw[<-hw10];exact Whole.made _ _ _
          have hb10:Below wr.heap.size wr w10:=by rw[<-hw10];exact(Below.refl _ _).alloc (Nat.le_refl _) _
          have HB10:=Lib.hid hb10
          have HOX10:Hid (x.ok w10 w10.heap.size):=(HOX.out.below hb10).ok
          have g0:w10.cell? ⟨wr.heap.size,0,none⟩=some (.string x.nm.s):=y10.at_ 0
          have g1:w10.cell? ⟨wr.heap.size,1,none⟩=some (.slice x.nm.A x.nm.n x.nm.c):=y10.at_ 1
          have g2:w10.cell? ⟨wr.heap.size,2,none⟩=some (.string x.vl.s):=y10.at_ 2
          have g3:w10.cell? ⟨wr.heap.size,3,none⟩=some (.slice x.vl.A x.vl.n x.vl.c):=y10.at_ 3
          clear hb10 y10
          go_wp2_with fail
          clear hw10
          refine(zpY x.nm x.vl w10 HOX10.out.1 HOX10.out.2 (by have:=HXI.out.1;omega) (by have:=HXI.out.2;omega)).mono ?_
          rintro e w11 ⟨p,rfl,hp,hb11⟩
          have HB11:=Lib.hid hb11
          have hpar11:w11.ownsRow w5.heap.size 24 2 (.slice A5 (k+2) c5) (k+2) (zG us):=zO (zO hparts HB10.out) HB11.out
          have hz511:w5.heap.size<=w11.heap.size:=Nat.le_trans HP.out.bel.size (Nat.le_trans HB10.out.size HB11.out.size)
          have HGO:Hid (∀ (v':Value) (w7:World),w7.ownsRow w5.heap.size 24 2 v' (k+2+1) (zG us++ [.string p.s,.slice p.A p.n p.c])->(w11.alloc (.cells #[.string p.s,.slice p.A p.n p.c] 24)).grownBy w7 (Value.slice A5 (k+2) c5).ownBlock->zuY w5 w8.heap.size (.slice (some ad) n c9) ats t.tag.ch n v' (.int .i64 ((k:Int)+1)) w7):=by
            intro v' w7 h7 hg
            have h0:=HP.out
            rw[HUL.out]at h0
            refine⟨k+1,us++ [p],by omega,by go_num,by rw[List.length_append,HUL.out];rfl,?_,?_⟩
            . rw[zgy,HCAT.out,HNX.out,hp.out.1]
              simp only[List.append_assoc]
            . have hbb:Below wr.heap.size wr (w11.alloc (.cells #[.string p.s,.slice p.A p.n p.c] 24)):=zb (zb HB10.out (Nat.le_refl _) HB11.out) (Nat.le_refl _) ((Below.refl _ _).alloc (Nat.le_refl _) _)
              exact StP.grow h0 HUL.out hbb ((hp.out.2.mono (Nat.le_trans HP.out.bel.size HB10.out.size)).below ((Below.refl _ _).alloc (Nat.le_refl _) _)) h7 hg
          clear hb11 g0 g1 g2 g3 d0 d1 d2 d3 hparts
          go_wp2_with (at_builtin;refine wpList_append_own_at _ rfl _ _ 42 rfl w5.heap.size 24 i0 _ 2 40 Tryz.underlying42 hi hiz0 hiz1 hiz2 rfl (by decide) (.slice A5 (k+2) c5) (k+2) _ rfl (hpar11.alloc _) ⟨w11.heap.size,0,none⟩ 1 1 [.string p.s,.slice p.A p.n p.c] rfl rfl (zab w11 _ _) (by simp [Value.oneCell']) (by simp only[maxLen];omega) (by omega) (by simp;omega) ?_)
          intro v' w12 hown12 hgrow _ _
          have HIN:=Lib.hid (HGO.out v' w12 hown12 hgrow)
          obtain⟨A12,d12,rfl,_,_,_⟩:=zg hown12
          clear hgrow hown12 hpar11 HGO
          go_wp2_with fail
          go_roundw
          case rel=>exact HIN.out
          case measure=>simp [intOf];omega
        . obtain rfl:k=n:=by omega
          go_wp2_with fail
          refine(HO2.out wr).mono ?_
          rintro e w10 ⟨b,rfl,hbb,hb10⟩
          have HB10:=Lib.hid hb10
          have hpar10:w10.ownsRow w5.heap.size 24 2 (.slice A5 (k+2) c5) (k+2) (zG us):=zO hparts hb10
          have hz510:w5.heap.size<=w10.heap.size:=Nat.le_trans HP.out.bel.size hb10.size
          have HGO:Hid (∀ (v':Value) (w7:World),w7.ownsRow w5.heap.size 24 2 v' (k+2+1) (zG us++ [.string ⟨#[62]⟩,.slice b.A b.n b.c])->(w10.alloc (.cells #[.string ⟨#[62]⟩,.slice b.A b.n b.c] 24)).grownBy w7 (Value.slice A5 (k+2) c5).ownBlock->StP w5 w8.heap.size (.slice A9 k c9) ats (us++ [b]) v' w7):=by
            intro v' w7 h7 hg
            have h0:=HP.out
            rw[HUL.out]at h0
            rw[<-hbb.out.1]at h7 hg
            have hbb2:Below wr.heap.size wr (w10.alloc (.cells #[.string b.s,.slice b.A b.n b.c] 24)):=zb HB10.out (Nat.le_refl _) ((Below.refl _ _).alloc (Nat.le_refl _) _)
            exact StP.grow h0 HUL.out hbb2 ((hbb.out.2.2.mono HP.out.bel.size).below ((Below.refl _ _).alloc (Nat.le_refl _) _)) h7 hg
          clear hb10 hparts
          go_wp2_with (at_builtin;refine wpList_append_own_at _ rfl _ _ 42 rfl w5.heap.size 24 i0 _ 2 40 Tryz.underlying42 hi hiz0 hiz1 hiz2 rfl (by decide) (.slice A5 (k+2) c5) (k+2) _ rfl (hpar10.alloc _) ⟨w10.heap.size,0,none⟩ 1 1 [.string ⟨#[62]⟩,.slice b.A b.n b.c] rfl rfl (zab w10 _ _) (by simp [Value.oneCell']) (by simp only[maxLen];omega) (by omega) (by simp;omega) ?_)
          intro v' w12 hown12 hgrow _ _
          have HIN:=Lib.hid (HGO.out v' w12 hown12 hgrow)
          obtain⟨A12,d12,rfl,_,_,_⟩:=zg hown12
          have HRES:Hid (zS (us++ [b])=zaa t.tag.ch (t.atts.map AT.ch)):=by
            show _=_
            rw[zgy,HCAT.out,hbb.out.2.1,HR.out,List.take_of_length_le (by rw[HNL.out];exact Nat.le_refl _),HCH.out]
          have HSL:Hid ((zS (us++ [b])).length<=4294967296):=by
            show _<=_
            rw[HRES.out]
            have h1:=zm2 t.tag.ch (t.atts.map AT.ch)
            have h2:=HAW.out
            omega
          have HLN:Hid ((us++ [b]).length=k+2+1):=by show _=_;rw[List.length_append,HUL.out];rfl
          have HCC:Hid (Calls Tryz.prog 54 #[.slice A12 (k+2+1) d12] w12 (zcT (zaa t.tag.ch (t.atts.map AT.ch)) w12)):=by
            have h:=ziq (us++ [b]) A12 (k+2+1) d12 w12 (by
              have h3:=HIN.out.parts
              rw[HLN.out]at h3
              exact Lies.own h3) HLN.out (by omega) (fun u hu=>(HIN.out.oks u hu).ok HIN.out.bel.size) HSL.out
            rw[HRES.out]at h
            exact h
          clear hgrow hown12 hpar10 HGO
          go_wp2_with fail
          refine HCC.out.mono ?_
          rintro e w13 ⟨c,rfl,hc,hb13⟩
          have hb513:Below w5.heap.size w5 w13:=zb HIN.out.bel (Nat.le_refl _) hb13
          have z13:Whole w13 (w.heap.size+1) 24 #[.string ⟨#[]⟩,.slice none 0 0]:=Z5.out.below hb513 Z5.out.lt
          have q0:w13.cell? ⟨w.heap.size+1,0,none⟩=some (.string ⟨#[]⟩):=z13.at_ 0
          have q1:w13.cell? ⟨w.heap.size+1,1,none⟩=some (.slice none 0 0):=z13.at_ 1
          have p0:=z13.free 0
          have p1:=z13.free 1
          have hz12:w.heap.size+2<=w12.heap.size:=by have:=HIN.out.bel.size;have:=HZ5.out;omega
          have hbF:Below w.heap.size w w13:=zb HB5.out (Nat.le_refl _) hb513
          clear hb513 hb13 HCC
          go_wp2
          refine bodyPost_ret (v:=.agg #[.string c.s,.slice c.A c.n c.c]) ?_ rfl ?_
          . simp [results,Tryz.results89,go_sem,q0,q1]
          . exact zeR (g:=w.heap.size+1) (by omega) hc.out.1 (hc.out.2.mono (by omega)) hbF
def asV(raw:Bool):Value:=if raw then .func (.func 133) #[] #[] else .func (.func 52) #[] #[]
def zeS(bp bl:Nat):Value:=.func (.func 53) #[] #[.pointer (some ⟨bp,0,none⟩),.pointer (some ⟨bl,0,none⟩)]
theorem zno(t:TT)(w:World) :
    Calls Tryz.prog 90 #[.agg #[.string t.tag.s,.slice t.tag.A t.tag.n t.tag.c,.slice t.A t.n t.c,.slice t.K t.kn t.kc,.string t.text.s,.slice t.text.A t.text.n t.text.c]] w fun e w'=>e=.returned (asV (rawH t.tag.s.data.toList))/\Below w.heap.size w w':=by
  have HV:=Lib.hid (zhu t.tag.s)
  have hb:Below w.heap.size w (w.alloc (.cells #[.string t.tag.s,.slice t.tag.A t.tag.n t.tag.c,.slice t.A t.n t.c,.slice t.K t.kn t.kc,.string t.text.s,.slice t.text.A t.text.n t.text.c] 48)):=(Below.refl _ _).alloc (Nat.le_refl _) _
  go_enter Tryz.func90,Tryz.ntmps90
  go_wp2_with fail
  refine(HV.out _).mono ?_
  rintro e w7 ⟨rfl,rfl⟩
  cases hq:rawH t.tag.s.data.toList with
  | true=>
    have HQ:=Lib.hid hq
    clear hq
    go_wp2_with fail
    go_ret
    exact⟨by rw[HQ.out];rfl,hb⟩
  | false=>
    have HQ:=Lib.hid hq
    clear hq
    go_wp2_with fail
    go_ret
    exact⟨by rw[HQ.out];rfl,hb⟩
theorem zkW(a:LT)(w:World) :
    Calls Tryz.prog 133 #[.agg #[.string a.s,.slice a.A a.n a.c]] w fun e w'=>e=.returned (.agg #[.string a.s,.slice a.A a.n a.c])/\Below w.heap.size w w':=by
  go_enter Tryz.func133,Tryz.ntmps133
  generalize hw5:(w.alloc (.cells #[.string a.s,.slice a.A a.n a.c] 24)).alloc (.cells #[.string ⟨#[]⟩,.slice none 0 0] 24)=w5
  have y5:Whole w5 w.heap.size 24 #[.string a.s,.slice a.A a.n a.c]:=by rw[<-hw5];exact(Whole.made _ _ _).alloc _
  have z5:Whole w5 (w.heap.size+1) 24 #[.string ⟨#[]⟩,.slice none 0 0]:=by
    rw[<-hw5]
    have h:=Whole.made (w.alloc (.cells #[.string a.s,.slice a.A a.n a.c] 24)) 24 #[.string ⟨#[]⟩,.slice none 0 0]
    simp only[World.size_alloc]at h
    exact h
  have hb5:Below w.heap.size w w5:=by rw[<-hw5];exact((Below.refl _ _).alloc (Nat.le_refl _) _).alloc (by simp) _
  have e0:w5.cell? ⟨w.heap.size,0,none⟩=some (.string a.s):=y5.at_ 0
  have e1:w5.cell? ⟨w.heap.size,1,none⟩=some (.slice a.A a.n a.c):=y5.at_ 1
  have r0:w5.cell? ⟨w.heap.size+1,0,none⟩=some (.string ⟨#[]⟩):=z5.at_ 0
  have r1:w5.cell? ⟨w.heap.size+1,1,none⟩=some (.slice none 0 0):=z5.at_ 1
  have f0:=z5.free 0
  have f1:=z5.free 1
  go_wp2
  refine bodyPost_ret (v:=.agg #[.string a.s,.slice a.A a.n a.c]) ?_ rfl ?_
  . simp [results,Tryz.results133,go_sem,r0,r1]
  . exact⟨rfl,(hb5.setCell (p:=⟨w.heap.size+1,0,none⟩) (by simp) _).setCell (p:=⟨w.heap.size+1,1,none⟩) (by simp) _⟩
def zir(raw:Bool)(a:LT)(w:World)(e:Ending)(w':World):Prop:=
  ∃ u:LT,e=.returned (.agg #[.string u.s,.slice u.A u.n u.c])/\Hid (u.ch=asH raw a.ch/\(OwnL w' w.heap.size u\/u=a))/\Below w.heap.size w w'
theorem ztU(a:LT)(w:World)(ha:a.ok w w.heap.size)(hs:a.s.size<=1048576) :
    Calls Tryz.prog 52 #[.agg #[.string a.s,.slice a.A a.n a.c]] w (zir false a w):=by
  refine(znm a w ha (by omega)).mono ?_
  rintro e w' ⟨u,rfl,hu,hb⟩
  exact⟨u,rfl,⟨hu.out.1,.inl hu.out.2⟩,hb⟩
theorem ztV(a:LT)(w:World) :
    Calls Tryz.prog 133 #[.agg #[.string a.s,.slice a.A a.n a.c]] w (zir true a w):=by
  refine(zkW a w).mono ?_
  rintro e w' ⟨rfl,hb⟩
  exact⟨a,rfl,⟨rfl,.inr rfl⟩,hb⟩
structure Low (base:Nat) (w:World) (t:TT):Prop where
  self:t.inS (fun b=>b < base) w
  kids:AllS (fun b=>b < base) w t.kids
theorem Low.next{base:Nat}{w w':World}{t:TT}(h:Low base w t)(hb:Below base w w'):Low base w' t:=
  have hs:Stays (fun b=>b < base) w w':=⟨hb.size,fun b hb2 _=>hb.block b hb2⟩
  ⟨h.self.keep hs,h.kids.keep hs⟩
theorem Low.at_{base:Nat}{w:World}{t:TT}(h:Low base w t)(hz:base<=w.heap.size)(hs:t.ch.sz<=1048576):TreeIn w t:=by
  refine⟨h.self.mono fun b hb _=>Nat.lt_of_lt_of_le hb hz,h.kids.mono fun b hb _=>Nat.lt_of_lt_of_le hb hz,?_⟩
  have:=zrz [t.ch]
  rw[zbs,zkD]at this
  omega
structure UK (bp bl gT gA bx:Nat) (raw:Bool) (cs:Array Value) (w:World):Prop where
  tk:Whole w gT 36 #[zeS bp bl]
  as_:Whole w gA 34 #[asV raw]
  box:Whole w bx 48 cs
  nT:gT≠bp/\gT≠bl
  nA:gA≠bp/\gA≠bl
  nX:bx≠bp/\bx≠bl
theorem UK.mv{bp bl gT gA bx base:Nat}{raw:Bool}{cs:Array Value}{w w':World}(h:UK bp bl gT gA bx raw cs w)(hm:Mv bp bl base w w'):UK bp bl gT gA bx raw cs w':=
  ⟨hm.block h.tk (by decide) h.nT.1 h.nT.2,hm.block h.as_ (by decide) h.nA.1 h.nA.2,hm.block h.box (by decide) h.nX.1 h.nX.2,h.nT,h.nA,h.nX⟩
theorem UK.next{bp bl gT gA bx:Nat}{raw:Bool}{cs:Array Value}{w w':World}(h:UK bp bl gT gA bx raw cs w)(hb:Below w.heap.size w w'):UK bp bl gT gA bx raw cs w':=h.mv (base:=0) (Mv.of hb)
def zdd(bp bl base:Nat)(l:List Ch)(w:World)(e:Ending)(w':World):Prop:=
  Mv bp bl base w w'/\((e=.returned (.bool true)/\PS bp bl base l w'/\totL l<=65536)\/(e=.returned (.bool false)/\65536 < totL l))
theorem zeT{bp bl base:Nat}{l:List Ch}{w w' w'':World}(hm:Mv bp bl base w w')(h:PS bp bl base l w'')(hm2:Mv bp bl base w' w''):zdd bp bl base l w (.returned (.bool (decide (totL l<=65536)))) w'':=by
  refine⟨hm.trans hm2,?_⟩
  by_cases ht:totL l<=65536
  . exact .inl ⟨by rw[decide_eq_true ht],h,ht⟩
  . exact .inr ⟨by rw[decide_eq_false ht],by omega⟩
theorem zp1{t:TT}(raw:Bool)(h:elH t=false):t.ch.putH raw=[asH raw t.text.ch]:=by
  have h2:=zeO t
  rw[h]at h2
  rw[PT.putH_eq,TT.ch_tag,TT.ch_text,if_pos (by simpa using h2.symm)]
theorem ztW{t:TT}(raw:Bool)(h:elH t=true):t.ch.putH raw=zaa t.tag.ch (t.atts.map AT.ch)::(putL (chL t.kids) (rawH t.tag.s.data.toList)++ [endH t.tag.ch]):=by
  have h2:=zeO t
  rw[h]at h2
  rw[PT.putH_eq,TT.ch_tag,TT.ch_attrs,TT.ch_kids,LT.ch_fst,if_neg (by simpa using h2.symm)]
  rfl
theorem ztX{base:Nat}{a u:LT}{w w':World}(h:OwnL w' w.heap.size u\/u=a)(ha:a.inS (fun b=>b < base) w)(hz:base<=w.heap.size)(hb:Below w.heap.size w w'):PartOk base w' u:=by
  rcases h with h | rfl
  . exact .inl (h.mono hz)
  . have h2:LT.ok w base u:=⟨fun j x hx=>by
      obtain⟨ad,e,hs,_,hc⟩:=ha.1 j x hx
      exact⟨ad,e,hs,hc⟩,ha.2⟩
    exact .inr (h2.keep fun p hp=>hb.cell (Nat.lt_of_lt_of_le hp hz))
section
variable {P : Program} {ops : Array Oper} {Q : Exit → Act → World → Prop} {md : Region.Mode} {S : World → Prop}
theorem zw{i d:Nat}{oi:Oper}{v:Value}{fuel:Nat}{listed:Array Bool}{ts:Array Value}{df:List Deferred}{w:World}(hi:ops[i]?=some oi)(hd:oi.dst=some d)
    (hs:Region.noSelect ops=true) (hf:Region.free md ops listed i=true) (hr:(Region.ready md ops listed).contains i=true)
    (hQ:∀ c a w,Q (.panic c) (a.put oi.dst v) w->Q (.panic c) a w) (hy:YieldsIf P ops S oi v { tmps:=ts,defers:=df }) (hS:S w)
    (h:wpAnyH P md ops Q S fuel (listed.setIfInBounds i true) { tmps:=ts.setIfInBounds d v,defers:=df } w):wpAnyH P md ops Q S (fuel+1) listed { tmps:=ts,defers:=df } w:=by
  refine wpAnyH_take hi hs hf hr hQ hy hS ?_
  rw[hd]
  exact h
end
theorem zkX{bp bl base:Nat}{l:List Ch}{raw:Bool}(t:TT)(gT gA:Nat)(w:World)
    (htk:Whole w gT 36 #[zeS bp bl]) (has:Whole w gA 34 #[asV raw]) (nT:gT≠bp/\gT≠bl) (nA:gA≠bp/\gA≠bl)
    (hlow:Low base w t) (hsz:t.ch.sz<=1048576) (hps:PS bp bl base l w) (htot:totL l<=65536) (hlen:l.length+2 * t.ch.sz<=4194304)
    (hK:∀ (l':List Ch) (raw':Bool) w',Mv bp bl base w w'->PS bp bl base l' w'->totL l'<=65536->l'.length+2 * szL (chL t.kids)<=4194304->Calls Tryz.prog 51 #[.slice t.K t.kn t.kc,asV raw',zeS bp bl] w' (zdd bp bl base (l'++ putL (chL t.kids) raw') w')) :
    Calls Tryz.prog 88 #[.agg #[.string t.tag.s,.slice t.tag.A t.tag.n t.tag.c,.slice t.A t.n t.c,.slice t.K t.kn t.kc,.string t.text.s,.slice t.text.A t.text.n t.text.c],.pointer (some ⟨gT,0,none⟩),.pointer (some ⟨gA,0,none⟩)] w (zdd bp bl base (l++ t.ch.putH raw) w):=by
  have HE:=Lib.hid (zaZ t)
  have HLOW:=Lib.hid hlow
  have HSZ:=Lib.hid hsz
  have HPS:=Lib.hid hps
  have HTOT:=Lib.hid htot
  have HLEN:=Lib.hid hlen
  have HK:=Lib.hid hK
  have hz:=hps.lt
  have hpb:=hps.pb
  have hlb:=hps.lb
  have HTX:=Lib.hid (zp1 (t:=t) raw)
  have HEL:=Lib.hid (ztW (t:=t) raw)
  have hb5:Below w.heap.size w (w.alloc (.cells #[.string t.tag.s,.slice t.tag.A t.tag.n t.tag.c,.slice t.A t.n t.c,.slice t.K t.kn t.kc,.string t.text.s,.slice t.text.A t.text.n t.text.c] 48)):=(Below.refl _ _).alloc (Nat.le_refl _) _
  have HU5:Hid (UK bp bl gT gA w.heap.size raw #[.string t.tag.s,.slice t.tag.A t.tag.n t.tag.c,.slice t.A t.n t.c,.slice t.K t.kn t.kc,.string t.text.s,.slice t.text.A t.text.n t.text.c] (w.alloc (.cells #[.string t.tag.s,.slice t.tag.A t.tag.n t.tag.c,.slice t.A t.n t.c,.slice t.K t.kn t.kc,.string t.text.s,.slice t.text.A t.text.n t.text.c] 48))):=
    ⟨htk.alloc _,has.alloc _,Whole.made _ _ _,nT,nA,by omega,by omega⟩
  clear hlow hsz hps htot hlen hK htk has nT nA
  go_enter Tryz.func88,Tryz.ntmps88
  generalize hw5:w.alloc (.cells #[.string t.tag.s,.slice t.tag.A t.tag.n t.tag.c,.slice t.A t.n t.c,.slice t.K t.kn t.kc,.string t.text.s,.slice t.text.A t.text.n t.text.c] 48)=w5 at *
  have HB5:=Lib.hid hb5
  have y5:=HU5.out.box
  have e0:w5.cell? ⟨w.heap.size,0,none⟩=some (.string t.tag.s):=y5.at_ 0
  have e1:w5.cell? ⟨w.heap.size,1,none⟩=some (.slice t.tag.A t.tag.n t.tag.c):=y5.at_ 1
  have e2:w5.cell? ⟨w.heap.size,2,none⟩=some (.slice t.A t.n t.c):=y5.at_ 2
  have e3:w5.cell? ⟨w.heap.size,3,none⟩=some (.slice t.K t.kn t.kc):=y5.at_ 3
  have e4:w5.cell? ⟨w.heap.size,4,none⟩=some (.string t.text.s):=y5.at_ 4
  have e5:w5.cell? ⟨w.heap.size,5,none⟩=some (.slice t.text.A t.text.n t.text.c):=y5.at_ 5
  go_wp2_with fail
  clear hw5
  refine(HE.out w5).mono ?_
  rintro e w6 ⟨rfl,hb6⟩
  have HB6:=Lib.hid (zb HB5.out (Nat.le_refl _) hb6)
  have HM6:Hid (Mv bp bl base w w6):=Mv.of HB6.out
  have HU6:=Lib.hid (HU5.out.next hb6)
  have HPS6:=Lib.hid (HPS.out.next HB6.out)
  have HL6:=Lib.hid (HLOW.out.next (HB6.out.mono hz.2.2))
  have hz6:base<=w6.heap.size:=Nat.le_trans hz.2.2 HB6.out.size
  clear e0 e1 e2 e3 e4 e5 y5 hb5 hb6
  have HKS:Hid (∀ w',UK bp bl gT gA w.heap.size raw #[.string t.tag.s,.slice t.tag.A t.tag.n t.tag.c,.slice t.A t.n t.c,.slice t.K t.kn t.kc,.string t.text.s,.slice t.text.A t.text.n t.text.c] w'->(w'.cell? ⟨gT,0,none⟩=some (.func (.func 53) #[] #[.pointer (some ⟨bp,0,none⟩),.pointer (some ⟨bl,0,none⟩)])/\w'.cell? ⟨gA,0,none⟩=some (asV raw)/\w'.cell? ⟨w.heap.size,0,none⟩=some (.string t.tag.s)/\w'.cell? ⟨w.heap.size,1,none⟩=some (.slice t.tag.A t.tag.n t.tag.c)/\w'.cell? ⟨w.heap.size,2,none⟩=some (.slice t.A t.n t.c)/\w'.cell? ⟨w.heap.size,3,none⟩=some (.slice t.K t.kn t.kc)/\w'.cell? ⟨w.heap.size,4,none⟩=some (.string t.text.s)/\w'.cell? ⟨w.heap.size,5,none⟩=some (.slice t.text.A t.text.n t.text.c)/\UK bp bl gT gA w.heap.size raw #[.string t.tag.s,.slice t.tag.A t.tag.n t.tag.c,.slice t.A t.n t.c,.slice t.K t.kn t.kc,.string t.text.s,.slice t.text.A t.text.n t.text.c] w')):=fun w' h=>
    ⟨h.tk.at_ 0,h.as_.at_ 0,h.box.at_ 0,h.box.at_ 1,h.box.at_ 2,h.box.at_ 3,h.box.at_ 4,h.box.at_ 5,h⟩
  cases hq:elH t with
  | false=>
    have HT:=Lib.hid (HTX.out hq)
    clear hq HEL HTX
    have HW:Hid (∀ w',Below w6.heap.size w6 w'->Calls Tryz.prog 52 #[.agg #[.string t.text.s,.slice t.text.A t.text.n t.text.c]] w' (zir false t.text w')):=fun w' hb=>ztU t.text w' (((HL6.out.at_ hz6 HSZ.out).next hb).self.text.ok) ((HL6.out.at_ hz6 HSZ.out).text)
    have HRR:Hid (∀ w',Below w6.heap.size w6 w'->Calls Tryz.prog 133 #[.agg #[.string t.text.s,.slice t.text.A t.text.n t.text.c]] w' (zir true t.text w')):=fun w' _=>ztV t.text w'
    have HTK:Hid (∀ (u:LT) w' w'',Below w6.heap.size w6 w'->Below w'.heap.size w' w''->(u.ch=asH raw t.text.ch/\(OwnL w'' w'.heap.size u\/u=t.text))->Calls Tryz.prog 53 #[.agg #[.string u.s,.slice u.A u.n u.c],.pointer (some ⟨bp,0,none⟩),.pointer (some ⟨bl,0,none⟩)] w'' fun e w3=>
        e=.returned (.bool (decide (totL (l++ t.ch.putH raw)<=65536)))/\PS bp bl base (l++ t.ch.putH raw) w3/\Mv bp bl base w'' w3):=fun u w' w'' hb hb2 hu=>by
      have h6:=HL6.out.next (hb.mono hz6)
      have hzz:base<=w'.heap.size:=Nat.le_trans hz6 hb.size
      have hsz2:u.s.size<=6 * t.text.s.size:=by
        have h1:=ztz raw t.text.ch
        rw[<-hu.1,LT.ch_length,LT.ch_length]at h1
        exact h1
      have htz:=(HL6.out.at_ hz6 HSZ.out).text
      have h:=zjQ u w'' ((HPS6.out.next hb).next hb2) (ztX hu.2 h6.self.text hzz hb2) HTOT.out (by have:=HLEN.out;omega) (by omega)
      rw[hu.1]at h
      rw[HT.out]
      exact h
    obtain⟨c0,c1,_,_,_,_,c4,c5,_⟩:=HKS.out _ HU6.out
    cases raw
    . have c1':w6.cell? ⟨gA,0,none⟩=some (.func (.func 52) #[] #[]):=c1
      clear c1
      go_wp2_with fail
      go_region_held3 (fun w'=>w'.cell? ⟨gT,0,none⟩=some (.func (.func 53) #[] #[.pointer (some ⟨bp,0,none⟩),.pointer (some ⟨bl,0,none⟩)])/\w'.cell? ⟨gA,0,none⟩=some (.func (.func 52) #[] #[])/\w'.cell? ⟨w.heap.size,4,none⟩=some (.string t.text.s)/\w'.cell? ⟨w.heap.size,5,none⟩=some (.slice t.text.A t.text.n t.text.c)/\UK bp bl gT gA w.heap.size false #[.string t.tag.s,.slice t.tag.A t.tag.n t.tag.c,.slice t.A t.n t.c,.slice t.K t.kn t.kc,.string t.text.s,.slice t.text.A t.text.n t.text.c] w')
        (first
          | (have hk:=HU6.out.next (Below.drew (Below.refl _ _));exact⟨hk.tk.at_ 0,hk.as_.at_ 0,hk.box.at_ 4,hk.box.at_ 5,hk⟩)
          | exact⟨hK.tk.at_ 0,hK.as_.at_ 0,hK.box.at_ 4,hK.box.at_ 5,hK⟩)
        (first
          | (go_at_call 52;refine(HW.out _ ((Below.refl _ _).drew)).mono ?_;rintro e w7 ⟨u,rfl,hu,hb7⟩;have HB7:=Lib.hid hb7;have hK:UK bp bl gT gA w.heap.size false #[.string t.tag.s,.slice t.tag.A t.tag.n t.tag.c,.slice t.A t.n t.c,.slice t.K t.kn t.kc,.string t.text.s,.slice t.text.A t.text.n t.text.c] w7:=(HU6.out.next (Below.drew (Below.refl _ _))).next hb7;clear hb7)
          | (go_at_call 53;refine(HTK.out u _ _ ((Below.refl _ _).drew) HB7.out hu.out).mono ?_;rintro e w8 ⟨rfl,hp8,hm8⟩;have HP8:=Lib.hid hp8;have HM8:=Lib.hid hm8;have hK:UK bp bl gT gA w.heap.size false #[.string t.tag.s,.slice t.tag.A t.tag.n t.tag.c,.slice t.A t.n t.c,.slice t.K t.kn t.kc,.string t.text.s,.slice t.text.A t.text.n t.text.c] w8:=((HU6.out.next (Below.drew (Below.refl _ _))).next HB7.out).mv hm8;clear hp8 hm8))
      all_goals
        go_wp2
        go_ret
        exact zeT (HM6.out.trans (Mv.of (zb (Below.drew (Below.refl w6.heap.size w6)) (Nat.le_refl _) HB7.out))) HP8.out HM8.out
    . have c1':w6.cell? ⟨gA,0,none⟩=some (.func (.func 133) #[] #[]):=c1
      clear c1
      go_wp2_with fail
      go_region_held3 (fun w'=>w'.cell? ⟨gT,0,none⟩=some (.func (.func 53) #[] #[.pointer (some ⟨bp,0,none⟩),.pointer (some ⟨bl,0,none⟩)])/\w'.cell? ⟨gA,0,none⟩=some (.func (.func 133) #[] #[])/\w'.cell? ⟨w.heap.size,4,none⟩=some (.string t.text.s)/\w'.cell? ⟨w.heap.size,5,none⟩=some (.slice t.text.A t.text.n t.text.c)/\UK bp bl gT gA w.heap.size true #[.string t.tag.s,.slice t.tag.A t.tag.n t.tag.c,.slice t.A t.n t.c,.slice t.K t.kn t.kc,.string t.text.s,.slice t.text.A t.text.n t.text.c] w')
        (first
          | (have hk:=HU6.out.next (Below.drew (Below.refl _ _));exact⟨hk.tk.at_ 0,hk.as_.at_ 0,hk.box.at_ 4,hk.box.at_ 5,hk⟩)
          | exact⟨hK.tk.at_ 0,hK.as_.at_ 0,hK.box.at_ 4,hK.box.at_ 5,hK⟩)
        (first
          | (go_at_call 133;refine(HRR.out _ ((Below.refl _ _).drew)).mono ?_;rintro e w7 ⟨u,rfl,hu,hb7⟩;have HB7:=Lib.hid hb7;have hK:UK bp bl gT gA w.heap.size true #[.string t.tag.s,.slice t.tag.A t.tag.n t.tag.c,.slice t.A t.n t.c,.slice t.K t.kn t.kc,.string t.text.s,.slice t.text.A t.text.n t.text.c] w7:=(HU6.out.next (Below.drew (Below.refl _ _))).next hb7;clear hb7)
          | (go_at_call 53;refine(HTK.out u _ _ ((Below.refl _ _).drew) HB7.out hu.out).mono ?_;rintro e w8 ⟨rfl,hp8,hm8⟩;have HP8:=Lib.hid hp8;have HM8:=Lib.hid hm8;have hK:UK bp bl gT gA w.heap.size true #[.string t.tag.s,.slice t.tag.A t.tag.n t.tag.c,.slice t.A t.n t.c,.slice t.K t.kn t.kc,.string t.text.s,.slice t.text.A t.text.n t.text.c] w8:=((HU6.out.next (Below.drew (Below.refl _ _))).next HB7.out).mv hm8;clear hp8 hm8))
      all_goals
        go_wp2
        go_ret
        exact zeT (HM6.out.trans (Mv.of (zb (Below.drew (Below.refl w6.heap.size w6)) (Nat.le_refl _) HB7.out))) HP8.out HM8.out
  | true=>
    have HT:=Lib.hid (HEL.out hq)
    clear hq HEL HTX
    have HS:Hid (∀ w',Below w6.heap.size w6 w'->Calls Tryz.prog 89 #[.agg #[.string t.tag.s,.slice t.tag.A t.tag.n t.tag.c,.slice t.A t.n t.c,.slice t.K t.kn t.kc,.string t.text.s,.slice t.text.A t.text.n t.text.c]] w' (zcT (zaa t.tag.ch (t.atts.map AT.ch)) w')):=fun w' hb=>zp0 t w' ((HL6.out.at_ hz6 HSZ.out).next hb) HSZ.out
    have HWI:=Lib.hid (zno t)
    have HSX:Hid (szL (chL t.kids)+t.tag.ch.length+atWs (t.atts.map AT.ch)+1<=t.ch.sz):=by
      show _<=_
      have h1:=t.ch.sz_eq
      rw[TT.ch_attrs,TT.ch_tag,TT.ch_kids]at h1
      omega
    have HTK:Hid (∀ (l':List Ch) (u:LT) w',PS bp bl base l' w'->OwnL w' base u->totL l'<=65536->l'.length<=4194304->Calls Tryz.prog 53 #[.agg #[.string u.s,.slice u.A u.n u.c],.pointer (some ⟨bp,0,none⟩),.pointer (some ⟨bl,0,none⟩)] w' (zdd bp bl base (l'++ [u.ch]) w')):=fun l' u w' h1 h2 h3 h4=>(zjQ u w' h1 (.inl h2) h3 h4 h2.2.2.1).mono fun e w'' ⟨he,h5,h6⟩=>by
      rw[he]
      exact zeT (Mv.refl _ _ _ _) h5 h6
    have HLE:Hid (∀ w',Mv bp bl base w w'->Below base w w'/\base<=w'.heap.size/\Low base w' t):=fun w' hm=>by
      have h1:=hm.below hpb hlb hz.2.2
      exact⟨h1,Nat.le_trans hz.2.2 h1.size,HLOW.out.next h1⟩
    have HPC:Hid ((putL (chL t.kids) (rawH t.tag.s.data.toList)).length<=2 * szL (chL t.kids)):=zeI _ _
    obtain⟨c0,c1,d0,d1,d2,d3,d4,d5,_⟩:=HKS.out _ HU6.out
    go_wp2_with fail
    refine wp_region_held_drew (S:=fun w'=>w'.cell? ⟨gT,0,none⟩=some (.func (.func 53) #[] #[.pointer (some ⟨bp,0,none⟩),.pointer (some ⟨bl,0,none⟩)])/\w'.cell? ⟨gA,0,none⟩=some (asV raw)/\w'.cell? ⟨w.heap.size,0,none⟩=some (.string t.tag.s)/\w'.cell? ⟨w.heap.size,1,none⟩=some (.slice t.tag.A t.tag.n t.tag.c)/\w'.cell? ⟨w.heap.size,2,none⟩=some (.slice t.A t.n t.c)/\w'.cell? ⟨w.heap.size,3,none⟩=some (.slice t.K t.kn t.kc)/\w'.cell? ⟨w.heap.size,4,none⟩=some (.string t.text.s)/\w'.cell? ⟨w.heap.size,5,none⟩=some (.slice t.text.A t.text.n t.text.c)/\UK bp bl gT gA w.heap.size raw #[.string t.tag.s,.slice t.tag.A t.tag.n t.tag.c,.slice t.A t.n t.c,.slice t.K t.kn t.kc,.string t.text.s,.slice t.text.A t.text.n t.text.c] w') (by kernel_rfl) ?_ (fun hHeld=>?_)
    . exact HKS.out _ (HU6.out.next (Below.drew (Below.refl _ _)))
    refine zw (i:=0) (d:=14) (v:=(.func (.func 53) #[] #[.pointer (some ⟨bp,0,none⟩),.pointer (some ⟨bl,0,none⟩)])) rfl rfl (by kernel_rfl) (by kernel_rfl) (by kernel_rfl) (fun _ _ _ h=>h) (Or.inl ⟨by rfl,by(intro w hSw;(try dsimp only at hSw);go_simp)⟩) (by assumption) ?_
    simp only[zlA,zlB,zlC]
    refine zw (i:=1) (d:=15) (v:=(.agg #[.string t.tag.s,.slice t.tag.A t.tag.n t.tag.c,.slice t.A t.n t.c,.slice t.K t.kn t.kc,.string t.text.s,.slice t.text.A t.text.n t.text.c])) rfl rfl (by kernel_rfl) (by kernel_rfl) (by kernel_rfl) (fun _ _ _ h=>h) (Or.inl ⟨by rfl,by(intro w hSw;(try dsimp only at hSw);go_simp)⟩) (by assumption) ?_
    simp only[zlA,zlB,zlC]
    refine wpAnyH_ready (rs:=[2]) (by kernel_rfl) (by simp) ?_
    refine AllReadyH.cons (o:=_) rfl (fun K hK=>?_) AllReadyH.nil
    go_simp
    refine(HS.out _ (Below.drew (Below.refl _ _))).mono ?_
    rintro e w7 ⟨u,rfl,hu,hb7⟩
    have HB7:=Lib.hid (zb (Below.drew (Below.refl w6.heap.size w6)) (Nat.le_refl _) hb7)
    have HUO:Hid (OwnL w7 base u):=hu.out.2.mono hz6
    have HU7:=Lib.hid (HU6.out.next HB7.out)
    have HM7:Hid (Mv bp bl base w w7):=HM6.out.trans (Mv.of HB7.out)
    have HP7:=Lib.hid (HPS6.out.next HB7.out)
    clear hb7
    refine hK.out _ _ (HKS.out _ HU7.out) (fun hHeld=>?_)
    clear hK K
    refine wpAnyH_ready (rs:=[3]) (by kernel_rfl) (by simp) ?_
    refine AllReadyH.cons (o:=_) rfl (fun K hK=>?_) AllReadyH.nil
    go_simp
    refine(HTK.out l u w7 HP7.out HUO.out HTOT.out (by have:=HLEN.out;omega)).mono ?_
    rw[hu.out.1]
    rintro e w8 ⟨hm8,(⟨rfl,hp8,ht8⟩ | ⟨rfl,ht8⟩)⟩
    . have HU8:=Lib.hid (HU7.out.mv hm8)
      have HM8:Hid (Mv bp bl base w w8):=HM7.out.trans hm8
      have HP8:=Lib.hid hp8
      have HT8:=Lib.hid ht8
      clear hm8 hp8 ht8
      refine hK.out _ _ (HKS.out _ HU8.out) (fun hHeld=>?_)
      clear hK K
      refine zw (i:=4) (d:=18) (v:=(.bool true)) rfl rfl (by kernel_rfl) (by kernel_rfl) (by kernel_rfl) (fun _ _ _ h=>h) (Or.inl ⟨by rfl,by(intro w hSw;(try dsimp only at hSw);go_simp)⟩) (by assumption) ?_
      simp only[zlA,zlB,zlC]
      refine zw (i:=5) (d:=19) (v:=(.pointer (some ⟨w.heap.size,2+1,none⟩))) rfl rfl (by kernel_rfl) (by kernel_rfl) (by kernel_rfl) (fun _ _ _ h=>h) (Or.inl ⟨by rfl,by(intro w hSw;(try dsimp only at hSw);go_simp)⟩) (by assumption) ?_
      simp only[zlA,zlB,zlC]
      refine zw (i:=6) (d:=20) (v:=(.slice t.K t.kn t.kc)) rfl rfl (by kernel_rfl) (by kernel_rfl) (by kernel_rfl) (fun _ _ _ h=>h) (Or.inl ⟨by rfl,by(intro w hSw;(try dsimp only at hSw);go_simp)⟩) (by assumption) ?_
      simp only[zlA,zlB,zlC]
      refine zw (i:=7) (d:=21) (v:=(.agg #[.string t.tag.s,.slice t.tag.A t.tag.n t.tag.c,.slice t.A t.n t.c,.slice t.K t.kn t.kc,.string t.text.s,.slice t.text.A t.text.n t.text.c])) rfl rfl (by kernel_rfl) (by kernel_rfl) (by kernel_rfl) (fun _ _ _ h=>h) (Or.inl ⟨by rfl,by(intro w hSw;(try dsimp only at hSw);go_simp)⟩) (by assumption) ?_
      simp only[zlA,zlB,zlC]
      refine zw (i:=9) (d:=23) (v:=(.func (.func 53) #[] #[.pointer (some ⟨bp,0,none⟩),.pointer (some ⟨bl,0,none⟩)])) rfl rfl (by kernel_rfl) (by kernel_rfl) (by kernel_rfl) (fun _ _ _ h=>h) (Or.inl ⟨by rfl,by(intro w hSw;(try dsimp only at hSw);go_simp)⟩) (by assumption) ?_
      simp only[zlA,zlB,zlC]
      refine wpAnyH_ready (rs:=[8]) (by kernel_rfl) (by simp) ?_
      refine AllReadyH.cons (o:=_) rfl (fun K hK=>?_) AllReadyH.nil
      go_simp
      refine(HWI.out _).mono ?_
      rintro e w9 ⟨rfl,hb9⟩
      have HU9:=Lib.hid (HU8.out.next hb9)
      have HM9:Hid (Mv bp bl base w w9):=HM8.out.trans (Mv.of hb9)
      have HP9:=Lib.hid (HP8.out.next hb9)
      clear hb9
      refine hK.out _ _ (HKS.out _ HU9.out) (fun hHeld=>?_)
      clear hK K
      refine wpAnyH_ready (rs:=[10]) (by kernel_rfl) (by simp) ?_
      refine AllReadyH.cons (o:=_) rfl (fun K hK=>?_) AllReadyH.nil
      go_simp
      refine(HK.out (l++ [zaa t.tag.ch (t.atts.map AT.ch)]) (rawH t.tag.s.data.toList) w9 HM9.out HP9.out HT8.out (by rw[List.length_append];have:=HLEN.out;have:=HSX.out;simp only[List.length_cons,List.length_nil];omega)).mono ?_
      rintro e w10 ⟨hm10,(⟨rfl,hp10,ht10⟩ | ⟨rfl,ht10⟩)⟩
      . have HU10:=Lib.hid (HU9.out.mv hm10)
        have HM10:Hid (Mv bp bl base w w10):=HM9.out.trans hm10
        have HP10:=Lib.hid hp10
        have HT10:=Lib.hid ht10
        clear hm10 hp10 ht10
        refine hK.out _ _ (HKS.out _ HU10.out) (fun hHeld=>?_)
        clear hK K
        refine zw (i:=11) (d:=25) (v:=(.bool true)) rfl rfl (by kernel_rfl) (by kernel_rfl) (by kernel_rfl) (fun _ _ _ h=>h) (Or.inl ⟨by rfl,by(intro w hSw;(try dsimp only at hSw);go_simp)⟩) (by assumption) ?_
        simp only[zlA,zlB,zlC]
        refine zw (i:=12) (d:=26) (v:=(.bool true)) rfl rfl (by kernel_rfl) (by kernel_rfl) (by kernel_rfl) (fun _ _ _ h=>h) (Or.inl ⟨by rfl,by(intro w hSw;(try dsimp only at hSw);go_simp)⟩) (by assumption) ?_
        simp only[zlA,zlB,zlC]
        refine zw (i:=13) (d:=27) (v:=(.func (.func 53) #[] #[.pointer (some ⟨bp,0,none⟩),.pointer (some ⟨bl,0,none⟩)])) rfl rfl (by kernel_rfl) (by kernel_rfl) (by kernel_rfl) (fun _ _ _ h=>h) (Or.inl ⟨by rfl,by(intro w hSw;(try dsimp only at hSw);go_simp)⟩) (by assumption) ?_
        simp only[zlA,zlB,zlC]
        refine zw (i:=14) (d:=28) (v:=(.agg #[.string t.tag.s,.slice t.tag.A t.tag.n t.tag.c,.slice t.A t.n t.c,.slice t.K t.kn t.kc,.string t.text.s,.slice t.text.A t.text.n t.text.c])) rfl rfl (by kernel_rfl) (by kernel_rfl) (by kernel_rfl) (fun _ _ _ h=>h) (Or.inl ⟨by rfl,by(intro w hSw;(try dsimp only at hSw);go_simp)⟩) (by assumption) ?_
        simp only[zlA,zlB,zlC]
        refine wpAnyH_ready (rs:=[15]) (by kernel_rfl) (by simp) ?_
        refine AllReadyH.cons (o:=_) rfl (fun K hK=>?_) AllReadyH.nil
        go_simp
        obtain⟨_,hz10,hl10⟩:=HLE.out w10 HM10.out
        refine(ztS t w10 (hl10.at_ hz10 HSZ.out)).mono ?_
        rintro e w11 ⟨v,rfl,hv,hb11⟩
        have HU11:=Lib.hid (HU10.out.next hb11)
        have HM11:Hid (Mv bp bl base w w11):=HM10.out.trans (Mv.of hb11)
        have HP11:=Lib.hid (HP10.out.next hb11)
        have HVO:Hid (OwnL w11 base v):=hv.out.2.mono hz10
        clear hb11 hz10 hl10
        refine hK.out _ _ (HKS.out _ HU11.out) (fun hHeld=>?_)
        clear hK K
        refine wpAnyH_ready (rs:=[16]) (by kernel_rfl) (by simp) ?_
        refine AllReadyH.cons (o:=_) rfl (fun K hK=>?_) AllReadyH.nil
        go_simp
        refine(HTK.out _ v w11 HP11.out HVO.out HT10.out (by have h1:=HLEN.out;have h2:=HSX.out;have h3:=HPC.out;simp only[List.length_append,List.length_cons,List.length_nil];omega)).mono ?_
        rw[hv.out.1]
        have hll:l++ [zaa t.tag.ch (t.atts.map AT.ch)]++ putL (chL t.kids) (rawH t.tag.s.data.toList)++ [endH t.tag.ch]=l++ t.ch.putH raw:=by rw[HT.out];simp only[List.append_assoc,List.cons_append,List.nil_append]
        rw[hll]
        rintro e w12 ⟨hm12,(⟨rfl,hp12,ht12⟩ | ⟨rfl,ht12⟩)⟩
        . have HU12:=Lib.hid (HU11.out.mv hm12)
          have HM12:=Lib.hid hm12
          have HT12:=Lib.hid ht12
          have HP12:=Lib.hid hp12
          clear hm12 ht12 hp12 hll
          refine hK.out _ _ (HKS.out _ HU12.out) (fun hHeld=>?_)
          clear hK K
          refine zw (i:=17) (d:=31) (v:=(.bool true)) rfl rfl (by kernel_rfl) (by kernel_rfl) (by kernel_rfl) (fun _ _ _ h=>h) (Or.inl ⟨by rfl,by(intro w hSw;(try dsimp only at hSw);go_simp)⟩) (by assumption) ?_
          simp only[zlA,zlB,zlC]
          refine zw (i:=18) (d:=4) (v:=(.bool true)) rfl rfl (by kernel_rfl) (by kernel_rfl) (by kernel_rfl) (fun _ _ _ h=>h) (Or.inl ⟨by rfl,by(intro w hSw;(try dsimp only at hSw);go_simp)⟩) (by assumption) ?_
          simp only[zlA,zlB,zlC]
          refine wpAnyH_done (by kernel_rfl) ?_ _
          go_wp2
          go_ret
          exact⟨HM11.out.trans HM12.out,.inl ⟨rfl,HP12.out,HT12.out⟩⟩
        . have HU12:=Lib.hid (HU11.out.mv hm12)
          have HM12:=Lib.hid hm12
          have HT12:=Lib.hid ht12
          clear hm12 ht12 hll
          refine hK.out _ _ (HKS.out _ HU12.out) (fun hHeld=>?_)
          clear hK K
          refine zw (i:=17) (d:=31) (v:=(.bool false)) rfl rfl (by kernel_rfl) (by kernel_rfl) (by kernel_rfl) (fun _ _ _ h=>h) (Or.inl ⟨by rfl,by(intro w hSw;(try dsimp only at hSw);go_simp)⟩) (by assumption) ?_
          simp only[zlA,zlB,zlC]
          refine zw (i:=18) (d:=4) (v:=(.bool false)) rfl rfl (by kernel_rfl) (by kernel_rfl) (by kernel_rfl) (fun _ _ _ h=>h) (Or.inl ⟨by rfl,by(intro w hSw;(try dsimp only at hSw);go_simp)⟩) (by assumption) ?_
          simp only[zlA,zlB,zlC]
          refine wpAnyH_done (by kernel_rfl) ?_ _
          go_wp2
          go_ret
          exact⟨HM11.out.trans HM12.out,.inr ⟨rfl,HT12.out⟩⟩
      . have HU10:=Lib.hid (HU9.out.mv hm10)
        have HM10:Hid (Mv bp bl base w w10):=HM9.out.trans hm10
        have HT10:Hid (65536 < totL (l++ t.ch.putH raw)):=by
          show 65536 < _
          rw[HT.out]
          have h1:totL (l++ zaa t.tag.ch (t.atts.map AT.ch)::(putL (chL t.kids) (rawH t.tag.s.data.toList)++ [endH t.tag.ch]))=totL (l++ [zaa t.tag.ch (t.atts.map AT.ch)]++ putL (chL t.kids) (rawH t.tag.s.data.toList))+totL [endH t.tag.ch]:=by
            rw[<-zbx]
            simp only[List.append_assoc,List.cons_append,List.nil_append]
          rw[h1]
          omega
        clear hm10 ht10
        refine hK.out _ _ (HKS.out _ HU10.out) (fun hHeld=>?_)
        clear hK K
        refine zw (i:=11) (d:=25) (v:=(.bool false)) rfl rfl (by kernel_rfl) (by kernel_rfl) (by kernel_rfl) (fun _ _ _ h=>h) (Or.inl ⟨by rfl,by(intro w hSw;(try dsimp only at hSw);go_simp)⟩) (by assumption) ?_
        simp only[zlA,zlB,zlC]
        refine zw (i:=12) (d:=26) (v:=(.bool false)) rfl rfl (by kernel_rfl) (by kernel_rfl) (by kernel_rfl) (fun _ _ _ h=>h) (Or.inl ⟨by rfl,by(intro w hSw;(try dsimp only at hSw);go_simp)⟩) (by assumption) ?_
        simp only[zlA,zlB,zlC]
        refine zw (i:=13) (d:=27) (v:=undef) rfl rfl (by kernel_rfl) (by kernel_rfl) (by kernel_rfl) (fun _ _ _ h=>h) (Or.inr ⟨by rfl,rfl⟩) (by assumption) ?_
        simp only[zlA,zlB,zlC]
        refine zw (i:=14) (d:=28) (v:=undef) rfl rfl (by kernel_rfl) (by kernel_rfl) (by kernel_rfl) (fun _ _ _ h=>h) (Or.inr ⟨by rfl,rfl⟩) (by assumption) ?_
        simp only[zlA,zlB,zlC]
        refine zw (i:=15) (d:=29) (v:=undef) rfl rfl (by kernel_rfl) (by kernel_rfl) (by kernel_rfl) (fun _ _ _ h=>h) (Or.inr ⟨by rfl,rfl⟩) (by assumption) ?_
        simp only[zlA,zlB,zlC]
        refine zw (i:=16) (d:=30) (v:=undef) rfl rfl (by kernel_rfl) (by kernel_rfl) (by kernel_rfl) (fun _ _ _ h=>h) (Or.inr ⟨by rfl,rfl⟩) (by assumption) ?_
        simp only[zlA,zlB,zlC]
        refine zw (i:=17) (d:=31) (v:=(.bool false)) rfl rfl (by kernel_rfl) (by kernel_rfl) (by kernel_rfl) (fun _ _ _ h=>h) (Or.inl ⟨by rfl,by(intro w hSw;(try dsimp only at hSw);go_simp)⟩) (by assumption) ?_
        simp only[zlA,zlB,zlC]
        refine zw (i:=18) (d:=4) (v:=(.bool false)) rfl rfl (by kernel_rfl) (by kernel_rfl) (by kernel_rfl) (fun _ _ _ h=>h) (Or.inl ⟨by rfl,by(intro w hSw;(try dsimp only at hSw);go_simp)⟩) (by assumption) ?_
        simp only[zlA,zlB,zlC]
        refine wpAnyH_done (by kernel_rfl) ?_ _
        go_wp2
        go_ret
        exact⟨HM10.out,.inr ⟨rfl,HT10.out⟩⟩
    . have HU8:=Lib.hid (HU7.out.mv hm8)
      have HM8:Hid (Mv bp bl base w w8):=HM7.out.trans hm8
      have HT8:Hid (65536 < totL (l++ t.ch.putH raw)):=by
        show 65536 < _
        rw[HT.out]
        have h1:totL (l++ zaa t.tag.ch (t.atts.map AT.ch)::(putL (chL t.kids) (rawH t.tag.s.data.toList)++ [endH t.tag.ch]))=totL (l++ [zaa t.tag.ch (t.atts.map AT.ch)])+totL (putL (chL t.kids) (rawH t.tag.s.data.toList)++ [endH t.tag.ch]):=by
          rw[<-zbx]
          simp only[List.append_assoc,List.cons_append,List.nil_append]
        rw[h1]
        omega
      clear hm8 ht8
      refine hK.out _ _ (HKS.out _ HU8.out) (fun hHeld=>?_)
      clear hK K
      refine zw (i:=4) (d:=18) (v:=(.bool false)) rfl rfl (by kernel_rfl) (by kernel_rfl) (by kernel_rfl) (fun _ _ _ h=>h) (Or.inl ⟨by rfl,by(intro w hSw;(try dsimp only at hSw);go_simp)⟩) (by assumption) ?_
      simp only[zlA,zlB,zlC]
      refine zw (i:=5) (d:=19) (v:=undef) rfl rfl (by kernel_rfl) (by kernel_rfl) (by kernel_rfl) (fun _ _ _ h=>h) (Or.inr ⟨by rfl,rfl⟩) (by assumption) ?_
      simp only[zlA,zlB,zlC]
      refine zw (i:=6) (d:=20) (v:=undef) rfl rfl (by kernel_rfl) (by kernel_rfl) (by kernel_rfl) (fun _ _ _ h=>h) (Or.inr ⟨by rfl,rfl⟩) (by assumption) ?_
      simp only[zlA,zlB,zlC]
      refine zw (i:=7) (d:=21) (v:=undef) rfl rfl (by kernel_rfl) (by kernel_rfl) (by kernel_rfl) (fun _ _ _ h=>h) (Or.inr ⟨by rfl,rfl⟩) (by assumption) ?_
      simp only[zlA,zlB,zlC]
      refine zw (i:=8) (d:=22) (v:=undef) rfl rfl (by kernel_rfl) (by kernel_rfl) (by kernel_rfl) (fun _ _ _ h=>h) (Or.inr ⟨by rfl,rfl⟩) (by assumption) ?_
      simp only[zlA,zlB,zlC]
      refine zw (i:=9) (d:=23) (v:=undef) rfl rfl (by kernel_rfl) (by kernel_rfl) (by kernel_rfl) (fun _ _ _ h=>h) (Or.inr ⟨by rfl,rfl⟩) (by assumption) ?_
      simp only[zlA,zlB,zlC]
      refine zw (i:=10) (d:=24) (v:=undef) rfl rfl (by kernel_rfl) (by kernel_rfl) (by kernel_rfl) (fun _ _ _ h=>h) (Or.inr ⟨by rfl,rfl⟩) (by assumption) ?_
      simp only[zlA,zlB,zlC]
      refine zw (i:=11) (d:=25) (v:=(.bool false)) rfl rfl (by kernel_rfl) (by kernel_rfl) (by kernel_rfl) (fun _ _ _ h=>h) (Or.inl ⟨by rfl,by(intro w hSw;(try dsimp only at hSw);go_simp)⟩) (by assumption) ?_
      simp only[zlA,zlB,zlC]
      refine zw (i:=12) (d:=26) (v:=(.bool false)) rfl rfl (by kernel_rfl) (by kernel_rfl) (by kernel_rfl) (fun _ _ _ h=>h) (Or.inl ⟨by rfl,by(intro w hSw;(try dsimp only at hSw);go_simp)⟩) (by assumption) ?_
      simp only[zlA,zlB,zlC]
      refine zw (i:=13) (d:=27) (v:=undef) rfl rfl (by kernel_rfl) (by kernel_rfl) (by kernel_rfl) (fun _ _ _ h=>h) (Or.inr ⟨by rfl,rfl⟩) (by assumption) ?_
      simp only[zlA,zlB,zlC]
      refine zw (i:=14) (d:=28) (v:=undef) rfl rfl (by kernel_rfl) (by kernel_rfl) (by kernel_rfl) (fun _ _ _ h=>h) (Or.inr ⟨by rfl,rfl⟩) (by assumption) ?_
      simp only[zlA,zlB,zlC]
      refine zw (i:=15) (d:=29) (v:=undef) rfl rfl (by kernel_rfl) (by kernel_rfl) (by kernel_rfl) (fun _ _ _ h=>h) (Or.inr ⟨by rfl,rfl⟩) (by assumption) ?_
      simp only[zlA,zlB,zlC]
      refine zw (i:=16) (d:=30) (v:=undef) rfl rfl (by kernel_rfl) (by kernel_rfl) (by kernel_rfl) (fun _ _ _ h=>h) (Or.inr ⟨by rfl,rfl⟩) (by assumption) ?_
      simp only[zlA,zlB,zlC]
      refine zw (i:=17) (d:=31) (v:=(.bool false)) rfl rfl (by kernel_rfl) (by kernel_rfl) (by kernel_rfl) (fun _ _ _ h=>h) (Or.inl ⟨by rfl,by(intro w hSw;(try dsimp only at hSw);go_simp)⟩) (by assumption) ?_
      simp only[zlA,zlB,zlC]
      refine zw (i:=18) (d:=4) (v:=(.bool false)) rfl rfl (by kernel_rfl) (by kernel_rfl) (by kernel_rfl) (fun _ _ _ h=>h) (Or.inl ⟨by rfl,by(intro w hSw;(try dsimp only at hSw);go_simp)⟩) (by assumption) ?_
      simp only[zlA,zlB,zlC]
      refine wpAnyH_done (by kernel_rfl) ?_ _
      go_wp2
      go_ret
      exact⟨HM8.out,.inr ⟨rfl,HT8.out⟩⟩
structure Trees12 (base:Nat) (w:World) (A:Option Addr) (n:Nat) (ts:List TT):Prop where
  lies:LiesS (fun b=>b < base) w A (zf ts)
  all:AllS (fun b=>b < base) w ts
  len:ts.length=n
  sz:szL (chL ts)<=1048576
theorem Trees12.next{base:Nat}{w w':World}{A:Option Addr}{n:Nat}{ts:List TT}(h:Trees12 base w A n ts)(hb:Below base w w'):Trees12 base w' A n ts:=
  have hs:Stays (fun b=>b < base) w w':=⟨hb.size,fun b hb2 _=>hb.block b hb2⟩
  ⟨h.lies.keep hs,h.all.keep hs,h.len,h.sz⟩
theorem Trees12.small{base:Nat}{w:World}{A:Option Addr}{n:Nat}{ts:List TT}(h:Trees12 base w A n ts):n<=1048576:=by
  have h1:=zaJ (chL ts)
  rw[zx,h.len]at h1
  exact Nat.le_trans h1 (Nat.le_trans (zrz _) h.sz)
theorem Trees12.low{base:Nat}{w:World}{A:Option Addr}{n:Nat}{ts:List TT}(h:Trees12 base w A n ts){t:TT}(ht:t∈ts):Low base w t:=⟨h.all.get ht,h.all.kids ht⟩
theorem Low.kid{base:Nat}{w:World}{t:TT}(h:Low base w t)(hs:t.ch.sz<=1048576):Trees12 base w t.K t.kn t.kids:=by
  refine⟨h.self.kid,h.kids,h.self.kn,?_⟩
  have h1:=t.ch.sz_eq
  rw[TT.ch_kids]at h1
  omega
theorem ztY{L:List PT}{k:Nat}{t:PT}(h:L[k]?=some t):szL (L.take k)+t.sz<=szL L:=by
  have h1:=zeH (L.take (k+1)) (L.drop (k+1))
  rw[List.take_append_drop,zC h,zeH,zkD]at h1
  omega
theorem zsc(l:List Ch)(L:List PT)(k:Nat)(raw:Bool):totL (l++ putL (L.take k) raw)<=totL (l++ putL L raw):=by
  have h1:=zgn (L.take k) (L.drop k) raw
  rw[List.take_append_drop]at h1
  rw[h1,zbx,zbx,zbx]
  omega
structure PutJ (bp bl base gT gA:Nat) (raw:Bool) (l:List Ch) (w0 w:World):Prop where
  ps:PS bp bl base l w
  tot:totL l<=65536
  mv:Mv bp bl base w0 w
  tk:Whole w gT 36 #[zeS bp bl]
  as_:Whole w gA 34 #[asV raw]
theorem PutJ.next{bp bl base gT gA:Nat}{raw:Bool}{l:List Ch}{w0 w w':World}(h:PutJ bp bl base gT gA raw l w0 w)(hb:Below w.heap.size w w'):PutJ bp bl base gT gA raw l w0 w':=
  ⟨h.ps.next hb,h.tot,h.mv.trans (Mv.of hb),h.tk.below hb h.tk.lt,h.as_.below hb h.as_.lt⟩
theorem zkY{bp bl base gT gA:Nat}{l:List Ch}{raw:Bool}{A:Option Addr}{n:Nat}{ts:List TT}{w0:World}(hT:Trees12 base w0 A n ts)(nT:gT≠bp/\gT≠bl)(nA:gA≠bp/\gA≠bl)(hlen:l.length+2 * szL (chL ts)<=4194304)
    (hz:base<=w0.heap.size) (hp:base<=bp) (hl:base<=bl)
    (hK:∀ (t:TT),t∈ts->∀ (l':List Ch) (raw':Bool) w',Trees12 base w' t.K t.kn t.kids->PS bp bl base l' w'->totL l'<=65536->l'.length+2 * szL (chL t.kids)<=4194304->Calls Tryz.prog 51 #[.slice t.K t.kn t.kc,asV raw',zeS bp bl] w' (zdd bp bl base (l'++ putL (chL t.kids) raw') w')) :
    Asks 88 #[.pointer (some ⟨gT,0,none⟩),.pointer (some ⟨gA,0,none⟩)] (fun k=>decide (totL (l++ putL ((chL ts).take (k+1)) raw)<=65536)) (fun k w'=>PutJ bp bl base gT gA raw (l++ putL ((chL ts).take k) raw) w0 w') (fun w'=>Mv bp bl base w0 w')
      (fun w' w''=>Mv bp bl base w' w''/\(∃ c1,Whole w' bp 42 c1)/\∃ c2,Whole w' bl 3 c2) A ts where
  enters:=fun _ _=>rfl
  later:=fun _ _ _ h hb=>h.next hb
  lies:=fun _ w' h=>by
    have hb:=h.mv.below hp hl hz
    have h1:=(hT.next hb).lies
    exact(h1.mono (S':=fun b=>b < w'.heap.size) fun b _ hb=>hb).lies
  kept:=fun w' w'' h g cs hg=>by
    obtain⟨hm,⟨c1,h1⟩,c2,h2⟩:=h
    have key:∀ {t:TypeId} {c:Array Value} {x:Nat},Whole w' x t c->t≠87->g≠x:=fun hx ht e=>by
      subst e
      have e1:w'.heap[g]?=_:=hx
      rw[show w'.heap[g]?=_ from hg]at e1
      injection e1 with e1
      injection e1 with _ e1 _
      exact ht e1.symm
    exact hm.block hg (by decide) (key h1 (by decide)) (key h2 (by decide))
  tells:=fun k t w' ht h=>by
    have hb:=h.mv.below hp hl hz
    have hmem:=List.mem_of_getElem? ht
    have hlow:=(hT.next hb).low hmem
    have hst:=ztY (zi6 ht)
    have hcnt:=zeI ((chL ts).take k) raw
    have hts:=hT.sz
    have hkz:szL (chL t.kids)<=t.ch.sz:=by
      have h1:=t.ch.sz_eq
      rw[TT.ch_kids]at h1
      omega
    have hc:=zkX t gT gA w' h.tk h.as_ nT nA hlow (by omega) h.ps h.tot (by rw[List.length_append];omega) (fun l' raw' w'' hm hps htot hlen'=>hK t hmem l' raw' w'' ((hlow.next (hm.below hp hl (Nat.le_trans hz hb.size))).kid (by omega)) hps htot hlen')
    have e:l++ putL ((chL ts).take k) raw++ t.ch.putH raw=l++ putL ((chL ts).take (k+1)) raw:=by rw[zpa (zi6 ht),List.append_assoc]
    rw[e]at hc
    refine hc.mono ?_
    rintro e w'' ⟨hm,(⟨rfl,hps,htot⟩ | ⟨rfl,htot⟩)⟩
    . obtain⟨v,us,h1,h2,_⟩:=h.ps.vars
      refine⟨by rw[decide_eq_true htot],fun _=>⟨hps,htot,h.mv.trans hm,hm.block h.tk (by decide) nT.1 nT.2,hm.block h.as_ (by decide) nA.1 nA.2⟩,fun h0=>absurd h0 (by rw[decide_eq_true htot];decide),hm,⟨_,h1⟩,_,h2⟩
    . obtain⟨v,us,h1,h2,_⟩:=h.ps.vars
      exact⟨by rw[decide_eq_false (by omega)],fun h0=>absurd h0 (by rw[decide_eq_false (by omega)];decide),fun _=>h.mv.trans hm,hm,⟨_,h1⟩,_,h2⟩
theorem zp2{bp bl base:Nat}:∀ (Q:List PT) (raw:Bool) (A:Option Addr) (n c:Nat) (ts:List TT) (l:List Ch) (w:World),chL ts=Q->Trees12 base w A n ts->PS bp bl base l w->totL l<=65536->l.length+2 * szL (chL ts)<=4194304->
    Calls Tryz.prog 51 #[.slice A n c,asV raw,zeS bp bl] w (zdd bp bl base (l++ putL (chL ts) raw) w):=by
  apply PT.ind
  intro Q IH raw A n c ts l w hq hT hps htot hlen
  have hz:=hps.lt
  have hb5:Below w.heap.size w ((w.alloc (.cells #[asV raw] 34)).alloc (.cells #[zeS bp bl] 36)):=((Below.refl _ _).alloc (Nat.le_refl _) _).alloc (by simp) _
  have y5:Whole ((w.alloc (.cells #[asV raw] 34)).alloc (.cells #[zeS bp bl] 36)) w.heap.size 34 #[asV raw]:=(Whole.made _ _ _).alloc _
  have z5:Whole ((w.alloc (.cells #[asV raw] 34)).alloc (.cells #[zeS bp bl] 36)) (w.heap.size+1) 36 #[zeS bp bl]:=by
    have h:=Whole.made (w.alloc (.cells #[asV raw] 34)) 36 #[zeS bp bl]
    simp only[World.size_alloc]at h
    exact h
  have HC:Hid (Calls Tryz.prog 80 #[.slice A n c,.func (.func 88) #[] #[.pointer (some ⟨w.heap.size+1,0,none⟩),.pointer (some ⟨w.heap.size,0,none⟩)]] ((w.alloc (.cells #[asV raw] 34)).alloc (.cells #[zeS bp bl] 36)) (zdd bp bl base (l++ putL (chL ts) raw) w)):=by
    have hT5:=hT.next (hb5.mono hz.2.2)
    have ha:=zkY (bp:=bp) (bl:=bl) (gT:=w.heap.size+1) (gA:=w.heap.size) (l:=l) (raw:=raw) hT5 (by omega) (by omega) hlen (Nat.le_trans hz.2.2 hb5.size) hps.pb hps.lb (fun t ht l' raw' w' h1 h2 h3 h4=>
      IH t.ch (by rw[<-hq,zch];exact List.mem_map.2 ⟨t,ht,rfl⟩) raw' t.K t.kn t.kc t.kids l' w' (TT.ch_kids t).symm h1 h2 h3 h4)
    refine(zhB ha n c _ hT.len hT.small ⟨by rw[List.take_zero,putL,List.append_nil];exact hps.next hb5,by rw[List.take_zero,putL,List.append_nil];exact htot,Mv.refl _ _ _ _,z5,y5⟩).mono ?_
    rintro e w' (⟨rfl,_,h3⟩ | ⟨rfl,⟨k,hk,h2⟩,h3⟩)
    . have ht:(chL ts).take n=chL ts:=List.take_of_length_le (by rw[zx,hT.len];exact Nat.le_refl _)
      rw[ht]at h3
      exact⟨(Mv.of hb5).trans h3.mv,.inl ⟨rfl,h3.ps,h3.tot⟩⟩
    . refine⟨(Mv.of hb5).trans h3,.inr ⟨rfl,?_⟩⟩
      have h4:=zsc l (chL ts) (k+1) raw
      have h5:=of_decide_eq_false h2
      omega
  clear IH hq hT hps htot hlen hb5 y5 z5 hz
  obtain⟨N,hN⟩:∃ N,asV raw=.func (.func N) #[] #[]:=by
    cases raw
    . exact⟨_,rfl⟩
    . exact⟨_,rfl⟩
  rw[hN]at HC ⊢
  clear hN
  unfold zeS at *
  go_enter Tryz.func51,Tryz.ntmps51
  go_wp2_with fail
  refine HC.out.mono ?_
  rintro e w' ⟨hm,h⟩
  have HM:=Lib.hid hm
  rcases h with ⟨rfl,h1,h2⟩ | ⟨rfl,h2⟩
  . have H1:=Lib.hid h1
    have H2:=Lib.hid h2
    clear h1 h2 hm
    go_wp2
    go_ret
    exact⟨HM.out,.inl ⟨rfl,H1.out,H2.out⟩⟩
  . have H2:=Lib.hid h2
    clear h2 hm
    go_wp2
    go_ret
    exact⟨HM.out,.inr ⟨rfl,H2.out⟩⟩
def zma(L:List PT)(w:World)(e:Ending)(w':World):Prop:=
  Below w.heap.size w w'/\((fitL L=true/\totL (putL L false)<=65536/\∃ t:LT,e=.returned (.tuple #[.agg #[.string t.s,.slice t.A t.n t.c],.int .i64 0])/\Hid (t.ch=(putL L false).flatten/\OwnL w' w.heap.size t))\/
    (fitL L=false/\e=.returned (.tuple #[.agg #[.string ⟨#[]⟩,.slice none 0 0],.int .i64 16]))\/
    (65536 < totL (putL L false)/\e=.returned (.tuple #[.agg #[.string ⟨#[]⟩,.slice none 0 0],.int .i64 5])))
theorem zsd{w2:World}{t:LT}{g:Nat}(ho:OwnL w2 (g+1) t)(a b:Value):OwnL ((w2.setCell ⟨g,0,none⟩ a).setCell ⟨g,1,none⟩ b) (g+1) t:=by
  refine⟨ho.1,ho.2.1,ho.2.2.1,zQ (zQ ho.2.2.2 _ (fun h=>?_) _) _ (fun h=>?_) _⟩
  . have:=(ho.2.2.2.lt _ h).1;simp at this;omega
  . have:=(ho.2.2.2.lt _ h).1;simp at this;omega
theorem zmb(A:Option Addr)(n c:Nat)(ts:List TT)(w:World)(h:TreesIn0 w A n ts)(hsz:szL (chL ts)<=1048576) :
    Calls Tryz.prog 16 #[.slice A n c] w (zma (chL ts) w):=by
  have HI:=Lib.hid h
  have HSZ:=Lib.hid hsz
  have HF:Hid (∀ w',Below w.heap.size w w'->Calls Tryz.prog 50 #[.slice A n c] w' fun e w''=>e=.returned (.bool (fitL (chL ts)))/\Below w'.heap.size w' w''):=fun w' hb=>zr9 _ A n c ts w' rfl (h.next hb)
  clear h hsz
  go_enter Tryz.func16,Tryz.ntmps16
  generalize hw5:w.alloc (.cells #[.string ⟨#[]⟩,.slice none 0 0] 24)=w5
  have y5:Whole w5 w.heap.size 24 #[.string ⟨#[]⟩,.slice none 0 0]:=by rw[<-hw5];exact Whole.made _ _ _
  have hb5:Below w.heap.size w w5:=by rw[<-hw5];exact(Below.refl _ _).alloc (Nat.le_refl _) _
  have Y5:=Lib.hid y5
  have HB5:=Lib.hid hb5
  clear y5 hb5
  go_wp2_with fail
  clear hw5
  refine(HF.out w5 HB5.out).mono ?_
  rintro e w6 ⟨rfl,hb6⟩
  have HB6:=Lib.hid (zb HB5.out (Nat.le_refl _) hb6)
  have Y6:=Lib.hid (Y5.out.below hb6 Y5.out.lt)
  clear hb6
  cases hq:fitL (chL ts) with
  | false=>
    have HQ:=Lib.hid hq
    clear hq
    have r0:w6.cell? ⟨w.heap.size,0,none⟩=some (.string ⟨#[]⟩):=Y6.out.at_ 0
    have r1:w6.cell? ⟨w.heap.size,1,none⟩=some (.slice none 0 0):=Y6.out.at_ 1
    have f0:=Y6.out.free 0
    have f1:=Y6.out.free 1
    go_wp2_with fail
    refine bodyPost_ret (v:=.tuple #[.agg #[.string ⟨#[]⟩,.slice none 0 0],.int .i64 16]) ?_ rfl ?_
    . simp [results,Tryz.results16,go_sem,r0,r1]
    . exact⟨(HB6.out.setCell (p:=⟨w.heap.size,0,none⟩) (Nat.le_refl _) _).setCell (p:=⟨w.heap.size,1,none⟩) (Nat.le_refl _) _,.inr (.inl ⟨HQ.out,rfl⟩)⟩
  | true=>
    have HQ:=Lib.hid hq
    clear hq
    have hz6:=HB6.out.size
    generalize hw7:(w6.alloc (.cells #[.slice none 0 0] 42)).alloc (.cells #[.int .i64 65536] 3)=w7
    have hb7:Below w6.heap.size w6 w7:=by rw[<-hw7];exact((Below.refl _ _).alloc (Nat.le_refl _) _).alloc (by simp) _
    have hp7:Whole w7 w6.heap.size 42 #[.slice none 0 0]:=by rw[<-hw7];exact(Whole.made _ _ _).alloc _
    have hl7:Whole w7 (w6.heap.size+1) 3 #[.int .i64 65536]:=by
      rw[<-hw7]
      have h:=Whole.made (w6.alloc (.cells #[.slice none 0 0] 42)) 3 #[.int .i64 65536]
      simp only[World.size_alloc]at h
      exact h
    have HPS:Hid (PS w6.heap.size (w6.heap.size+1) w6.heap.size [] w7):=by
      refine⟨⟨.slice none 0 0,[],hp7,?_,World.ownsRow_nil _ _ _ _,rfl,fun u hu=>by cases hu⟩,Nat.le_refl _,Nat.le_succ _,by omega⟩
      have e:(65536:Int) - ((totL []:Nat):Int)=65536:=by rfl
      rw[e]
      exact hl7
    have HB7:=Lib.hid hb7
    have HB67:Hid (Below w.heap.size w w7):=zb HB6.out (Nat.le_refl _) hb7
    have HT7:Hid (Trees12 w6.heap.size w7 A n ts):=by
      have h1:=HI.out.next HB67.out
      refine⟨?_,?_,HI.out.len,HSZ.out⟩
      . exact(HI.out.lies.keep (Stays.of HB67.out)).mono fun b hb _=>Nat.lt_of_lt_of_le hb hz6
      . exact(HI.out.all.keep (Stays.of HB67.out)).mono fun b hb _=>Nat.lt_of_lt_of_le hb hz6
    have HCT:Hid (2 * szL (chL ts)<=4194304):=by have:=HSZ.out;show _<=_;omega
    have HPUT:Hid (Calls Tryz.prog 51 #[.slice A n c,.func (.func 52) #[] #[],.func (.func 53) #[] #[.pointer (some ⟨w6.heap.size,0,none⟩),.pointer (some ⟨w6.heap.size+1,0,none⟩)]] w7 (zdd w6.heap.size (w6.heap.size+1) w6.heap.size (putL (chL ts) false) w7)):=by
      have h:=zp2 (chL ts) false A n c ts [] w7 rfl HT7.out HPS.out (by decide) (by simpa using HCT.out)
      rw[List.nil_append]at h
      exact h
    have Y7:=Lib.hid (Y6.out.below HB7.out Y6.out.lt)
    have c0:=hp7.at_ 0
    have c1:=hl7.at_ 0
    clear hb7 hp7 hl7 c0 c1
    go_wp2_with fail
    clear hw7
    refine HPUT.out.mono ?_
    rintro e w8 ⟨hm8,h⟩
    have hb8:Below w6.heap.size w7 w8:=hm8.below (Nat.le_refl _) (Nat.le_succ _) HB7.out.size
    have HB8:Hid (Below w.heap.size w w8):=HB67.out.trans (hb8.mono hz6)
    have y8:=Y7.out.below hb8 (Y6.out.lt)
    have r0:w8.cell? ⟨w.heap.size,0,none⟩=some (.string ⟨#[]⟩):=y8.at_ 0
    have r1:w8.cell? ⟨w.heap.size,1,none⟩=some (.slice none 0 0):=y8.at_ 1
    have f0:=y8.free 0
    have f1:=y8.free 1
    have Y8:=Lib.hid y8
    clear hm8 y8 hb8 HPUT HPS
    rcases h with ⟨rfl,h1,h2⟩ | ⟨rfl,h2⟩
    . have HTT:=Lib.hid h2
      obtain⟨v,us,hv,_,hown,hch,hok⟩:=h1.vars
      have hzz:=h1.lt.2.2
      obtain⟨A5,c5,rfl,_,_,_⟩:=zg hown
      have c4:w8.cell? ⟨w6.heap.size,0,none⟩=some (.slice A5 us.length c5):=hv.at_ 0
      have HCH:Hid (zS us=(putL (chL ts) false).flatten):=by show _=_;rw[znl,hch]
      have HCC:Hid (Calls Tryz.prog 54 #[.slice A5 us.length c5] w8 (zcT (zS us) w8)):=by
        have hlen:us.length<=4194304:=by
          have h3:=congrArg List.length hch
          rw[List.length_map]at h3
          have h4:=zeI (chL ts) false
          have h5:=HCT.out
          omega
        refine ziq us A5 us.length c5 w8 (Lies.own hown) rfl (by omega) (fun u hu=>(hok u hu).ok hzz) ?_
        rw[HCH.out]
        have h6:(putL (chL ts) false).flatten.length=totL (putL (chL ts) false):=rfl
        rw[h6]
        omega
      generalize us.length=z at *
      clear h1 h2 hv hown hch hok hzz r0 r1 f0 f1
      go_wp2_with fail
      refine HCC.out.mono ?_
      rintro e w9 ⟨t,rfl,ht,hb9⟩
      have hz8:=HB8.out.size
      have hy8:=Y8.out.lt
      have y9:=Y8.out.below hb9 Y8.out.lt
      have q0:w9.cell? ⟨w.heap.size,0,none⟩=some (.string ⟨#[]⟩):=y9.at_ 0
      have q1:w9.cell? ⟨w.heap.size,1,none⟩=some (.slice none 0 0):=y9.at_ 1
      have p0:=y9.free 0
      have p1:=y9.free 1
      have hb:=zb HB8.out (Nat.le_refl _) hb9
      clear HCC c4
      go_wp2
      refine bodyPost_ret (v:=.tuple #[.agg #[.string t.s,.slice t.A t.n t.c],.int .i64 0]) ?_ rfl ?_
      . simp [results,Tryz.results16,go_sem,q0,q1]
      . refine⟨(hb.setCell (p:=⟨w.heap.size,0,none⟩) (Nat.le_refl _) _).setCell (p:=⟨w.heap.size,1,none⟩) (Nat.le_refl _) _,.inl ⟨HQ.out,HTT.out,t,rfl,?_,(zsd (ht.out.2.mono (by omega)) _ _).mono (by omega)⟩⟩
        rw[ht.out.1,HCH.out]
    . have HTT:=Lib.hid h2
      clear h2
      go_wp2_with fail
      refine bodyPost_ret (v:=.tuple #[.agg #[.string ⟨#[]⟩,.slice none 0 0],.int .i64 5]) ?_ rfl ?_
      . simp [results,Tryz.results16,go_sem,r0,r1]
      . exact⟨(HB8.out.setCell (p:=⟨w.heap.size,0,none⟩) (Nat.le_refl _) _).setCell (p:=⟨w.heap.size,1,none⟩) (Nat.le_refl _) _,.inr (.inr ⟨HTT.out,rfl⟩)⟩
end Go.Proofs.YtddgabjhligeeaaGreat.mk
