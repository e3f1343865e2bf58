import Derived.Test.YtddgabjhligeeaaGreatJnD
import Derived.Test.YtddgabjhligeeaaGreatJnAA
set_option maxHeartbeats 1000000
set_option maxRecDepth 100000
namespace Go.Proofs.YtddgabjhligeeaaGreat.mk
open Go.RowKit
theorem zdi(g i:Nat)(w:World){v:Value}(h:w.cell? ⟨g,i,none⟩=some v):g < w.heap.size:=by
  have:=World.block_lt_of_cell? w _ h
  simpa using this
theorem zcW(s:ByteArray)(w:World)(hs:s.size<=4294967296) :
    Calls Tryz.prog 187 #[.string s] w fun e w'=>e=.returned (.string ⟨(s.data.toList.map lowB).toArray⟩)/\Below w.heap.size w w':=by
  go_enter Tryz.func187,Tryz.ntmps187
  go_wp2_with fail
  refine(znY s 0 _ hs).mono ?_
  rintro e w1 ⟨v1,rfl,ho1,hb1⟩
  obtain⟨A1,c1,rfl,_,_,_⟩:=zh ho1
  have hlen:(comp (List.replicate s.size (zaa 0))).length<=s.size:=by
    have:=zD (List.replicate s.size (zaa 0))
    rw[List.length_replicate]at this
    exact this
  generalize comp (List.replicate s.size (zaa 0))=q at *
  go_wp2_with fail
  refine(zgG s A1 q.length c1 q _ (Lies.own ho1) rfl hs (by omega)).mono ?_
  generalize zan s.size q=q2
  rintro e w2 ⟨v2,rfl,ho2,hb2⟩
  obtain⟨A2,c2,rfl,_,_,_⟩:=zh ho2
  have ft:=fun w'=>zjf ⟨(s.data.toList.map lowB).toArray⟩ A2 q2.length c2 w'
  go_wp2_with fail
  go_ret
  exact⟨rfl,zf hb1 (Nat.le_refl _) hb2⟩
theorem zjB(s:ByteArray)(A:Option Addr)(n c:Nat)(p:ByteArray)(w:World)(hp:p.size<=4294967296) :
    Calls Tryz.prog 172 #[.agg #[.string s,.slice A n c],.string p] w fun e w'=>e=.returned (.bool (zbh lowB s.data.toList p.data.toList))/\Below w.heap.size w w':=by
  have hsl:s.data.toList.length=s.size:=by rw[Array.length_toList];rfl
  have hpl:p.data.toList.length=p.size:=by rw[Array.length_toList];rfl
  have hb1:=(Below.refl w.heap.size w).alloc (Nat.le_refl _) (.cells #[.string s,.slice A n c] 24)
  go_enter Tryz.func172,Tryz.ntmps172
  by_cases hlt:s.size < p.size
  . have HF:Hid (zbh lowB s.data.toList p.data.toList=false):=by
      show _=_
      unfold zbh
      rw[hsl,hpl,decide_eq_false (by omega),Bool.false_and]
    clear hsl hpl
    go_wp2_with fail
    go_ret
    exact⟨by rw[HF.out];rfl,hb1⟩
  . have HEX:Hid ((s.extract 0 p.size).data.toList=s.data.toList.take p.data.toList.length):=by
      show _=_
      rw[zbs,List.drop_zero,hpl]
    have HF:Hid (zbh lowB s.data.toList p.data.toList=((s.data.toList.map lowB).take p.size == p.data.toList.map lowB)):=by
      show _=_
      unfold zbh
      rw[hsl,hpl,decide_eq_true (by omega),Bool.true_and]
    clear hsl hpl
    go_wp2_with fail
    refine(zcW (s.extract 0 p.size) _ (by rw[ByteArray.size_extract];omega)).mono ?_
    rw[HEX.out]
    rintro e w2 ⟨rfl,hb2⟩
    go_wp2_with fail
    refine(zcW p _ hp).mono ?_
    rintro e w3 ⟨rfl,hb3⟩
    go_wp2_with fail
    go_ret
    exact⟨by rw[HF.out];rfl,zf (zf hb1 (Nat.le_refl _) hb2) (Nat.le_refl _) hb3⟩
def zoN(l:List UInt8)(f:UInt8->Bool)(i:Value):Prop:=
  ∃ k:Nat,k<=l.length/\i=.int .i64 (k:Int)/\∀ y∈l.take k,f y=true
theorem znm(s:ByteArray)(A:Option Addr)(n c:Nat)(p:ByteArray)(w:World)(hs:s.size<=4294967296)(hp:p.size<=4294967296) :
    Calls Tryz.prog 168 #[.agg #[.string s,.slice A n c],.string p] w fun e w'=>e=.returned (.int .i64 (zaQ s.data.toList (isIn p.data.toList)))/\Below w.heap.size w w':=by
  have hsl:s.data.toList.length=s.size:=by rw[Array.length_toList];rfl
  have hpl:p.data.toList.length=p.size:=by rw[Array.length_toList];rfl
  have HSL:=Lib.hid hsl
  have HPL:=Lib.hid hpl
  clear hsl hpl
  go_enter Tryz.func168,Tryz.ntmps168
  go_wp2_with fail
  first
    | (rw[zjn]
       simp only[Result.andThen]
       rw[Oper.upon_value])
    | (have hzc:Tryz.zeroCells185=Array.replicate 256 (.bool false):=by kernel_rfl
       rw[hzc]
       clear hzc)
  generalize hwb:w.alloc (.cells #[.string s,.slice A n c] 24)=wb
  have hb0:Below w.heap.size w wb:=by rw[<-hwb];exact(Below.refl _ _).alloc (Nat.le_refl _) _
  have hzb:w.heap.size+1=wb.heap.size:=by rw[<-hwb];simp
  have y0:Whole wb w.heap.size 24 #[.string s,.slice A n c]:=by rw[<-hwb];exact Whole.made w _ _
  clear hwb
  try rw[hzb]
  generalize hcs:Array.replicate 256 (Value.bool false)=cs0
  have hw1:ziE p.data.toList wb.heap.size wb (.int .i64 0) (wb.alloc (.cells cs0 185)):=by
    refine⟨0,Nat.zero_le _,rfl,⟨cs0,by rw[<-hcs];simp,Whole.made _ _ _,fun b=>?_⟩,(Below.refl _ _).alloc (Nat.le_refl _) _⟩
    have:=b.toNat_lt
    rw[<-hcs]
    simp [Array.getElem?_replicate]
    omega
  clear hcs
  generalize wb.alloc (.cells cs0 185)=w1 at *
  generalize hg:wb.heap.size=g at *
  try go_wp2_with fail
  go_loopw [10] (ziE p.data.toList g wb) (fun i _=>p.size - (intOf i).toNat)
  case atStart=>exact hw1
  case round=>
    obtain⟨k,hk,rfl,⟨cs,hcs,hW,hcell⟩,hbl⟩:=hrel
    rw[HPL.out]at hk
    clear hw1
    have hWl:=hW.lt
    by_cases hlt:k < p.size
    . have hk0:(0:Int)<=(k:Int):=Int.natCast_nonneg _
      have hk1:(k:Int) < (p.size:Int):=by omega
      have HSK:Hid (p.data.toList[k]?=some (p[k]'hlt)):=by
        show _=_
        rw[List.getElem?_eq_getElem (by rw[HPL.out];exact hlt)]
        rfl
      generalize hsk:p[k]'hlt=x at *
      have hx:=x.toNat_lt
      have hx1:(x.toNat:Int) < 256:=by omega
      have hx0:(0:Int)<=(x.toNat:Int):=Int.natCast_nonneg _
      have hc0:wr.cell? ⟨g,x.toNat,none⟩=some (.bool ((p.data.toList.take k).contains x)):=(hW.at_ _).trans (hcell x)
      have hf0:=hW.free x.toNat
      have HC:=Lib.hid hcell
      have HNX:Hid (p.data.toList.take (k+1)=p.data.toList.take k++ [x]):=zw HSK.out
      clear hcell
      go_wp2_with fail
      go_roundw
      case rel=>
        refine⟨k+1,by rw[HPL.out];omega,by go_num,⟨_,?_,hW.put x.toNat _,fun b=>?_⟩,hbl.setCell (Nat.le_refl _) _⟩
        . simpa using hcs
        . rw[HNX.out]
          by_cases hb:b=x
          . subst hb
            rw[Array.getElem?_setIfInBounds_self_of_lt (by rw[hcs];omega)]
            simp
          . rw[Array.getElem?_setIfInBounds_ne (by intro e;exact hb (UInt8.toNat_inj.1 e.symm)),HC.out]
            simp [hb]
      case measure=>simp [intOf];omega
    . obtain rfl:k=p.size:=by omega
      have HC:Hid (∀ b:UInt8,wr.cell? ⟨g,b.toNat,none⟩=some (.bool (isIn p.data.toList b))):=fun b=>by
        rw[hW.at_,hcell,List.take_of_length_le (by rw[HPL.out];exact Nat.le_refl _)];rfl
      have hW0:=y0.below hbl (by omega)
      have d0:wr.cell? ⟨w.heap.size,0,none⟩=some (.string s):=hW0.at_ 0
      clear hcell
      go_wp2_with fail
      obtain⟨wo,rfl⟩:∃ wo:World,wo=wr:=⟨_,rfl⟩
      go_loop [21] (zoN s.data.toList (isIn p.data.toList)) (fun i=>s.size - (intOf i).toNat)
      case atStart=>exact⟨0,Nat.zero_le _,rfl,by simp⟩
      case round=>
        obtain⟨k,hk,rfl,hall⟩:=hrel
        have HALL:=Lib.hid hall
        clear hall
        rw[HSL.out]at hk
        by_cases hlt:k < s.size
        . have hk0:(0:Int)<=(k:Int):=Int.natCast_nonneg _
          have hk1:(k:Int) < (s.size:Int):=by omega
          have HSK:Hid (s.data.toList[k]?=some (s[k]'hlt)):=by
            show _=_
            rw[List.getElem?_eq_getElem (by rw[HSL.out];exact hlt)]
            rfl
          generalize hsk:s[k]'hlt=x at *
          have hx:=x.toNat_lt
          have hx1:(x.toNat:Int) < 256:=by omega
          have hx0:(0:Int)<=(x.toNat:Int):=Int.natCast_nonneg _
          have hc0:=HC.out x
          cases hq:isIn p.data.toList x with
          | true=>
            rw[hq]at hc0
            have HNX:Hid (∀ y∈s.data.toList.take (k+1),isIn p.data.toList y=true):=by
              intro y hy
              rw[zw HSK.out]at hy
              rcases List.mem_append.1 hy with hy | hy
              . exact HALL.out y hy
              . simp at hy;subst hy;exact hq
            clear hq
            go_wp2_with fail
            go_round
            case rel=>exact⟨k+1,by rw[HSL.out];omega,by go_num,HNX.out⟩
            case measure=>simp [intOf];omega
          | false=>
            rw[hq]at hc0
            have HR:Hid (zaQ s.data.toList (isIn p.data.toList)=k):=zc3 HALL.out HSK.out hq
            clear hq
            go_wp2_with fail
            go_ret
            exact⟨by rw[HR.out];rfl,hb0.trans (hbl.mono (by omega))⟩
        . obtain rfl:k=s.size:=by omega
          have HR:Hid (zaQ s.data.toList (isIn p.data.toList)=s.size):=by
            show _=_
            rw[<-HSL.out]
            refine zgf (fun y hy=>HALL.out y ?_)
            rw[List.take_of_length_le (by rw[HSL.out];exact Nat.le_refl _)]
            exact hy
          go_wp2_with fail
          go_ret
          exact⟨by rw[HR.out];rfl,hb0.trans (hbl.mono (by omega))⟩
end Go.Proofs.YtddgabjhligeeaaGreat.mk
