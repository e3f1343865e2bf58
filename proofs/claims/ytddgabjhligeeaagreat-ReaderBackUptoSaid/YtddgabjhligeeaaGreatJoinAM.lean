import Derived.Test.YtddgabjhligeeaaGreatJoinAG
import Derived.Lib.TrimU
import Derived.Deep.LoopGhost
set_option maxHeartbeats 1000000
set_option maxRecDepth 100000
namespace Go.Proofs.YtddgabjhligeeaaGreat.mk
open Go.RowKit
theorem zeN(r:Nat)(w:World) :
    Calls Tryz.prog 120 #[.int .i32 (r:Int)] w fun e w'=>e=.returned (.bool (loN r))/\w=w':=by
  have HL:Hid (loN r=(decide (97<=r) && decide (r<=122))):=rfl
  by_cases h1:97<=r
  . have h1':(97:Int)<=(r:Int):=by omega
    by_cases h2:r<=122
    . have h2':(r:Int)<=122:=by omega
      have HR:Hid (loN r=true):=by show _=_;rw[HL.out];simp [h1,h2]
      clear h1 h2
      go_enter Tryz.func120,Tryz.ntmps120
      go_wp2
      go_ret
      exact⟨by rw[HR.out]<;>rfl,rfl⟩
    . have h2':¬ (r:Int)<=122:=by omega
      have HR:Hid (loN r=false):=by show _=_;rw[HL.out];simp [h2]
      clear h1 h2
      go_enter Tryz.func120,Tryz.ntmps120
      go_wp2
      go_ret
      exact⟨by rw[HR.out]<;>rfl,rfl⟩
  . have h1':¬ (97:Int)<=(r:Int):=by omega
    have HR:Hid (loN r=false):=by show _=_;rw[HL.out];simp [h1]
    clear h1
    go_enter Tryz.func120,Tryz.ntmps120
    go_wp2
    go_ret
    exact⟨by rw[HR.out]<;>rfl,rfl⟩
theorem zrQ(r:Nat)(w:World) :
    Calls Tryz.prog 122 #[.int .i32 (r:Int)] w fun e w'=>e=.returned (.bool (tagN r))/\w=w':=by
  have HL:Hid (tagN r=(loN r || (decide (48<=r) && decide (r<=57)))):=rfl
  have HC:=Lib.hid (zeN r)
  go_enter Tryz.func122,Tryz.ntmps122
  go_wp2_with fail
  refine(HC.out w).mono ?_
  rintro e w' ⟨rfl,rfl⟩
  generalize loN r=q at *
  cases q with
  | true=>
    have HR:Hid (tagN r=true):=by show _=_;rw[HL.out];rfl
    go_wp2
    go_ret
    exact⟨by rw[HR.out]<;>rfl,rfl⟩
  | false=>
    by_cases h1:48<=r
    . have h1':(48:Int)<=(r:Int):=by omega
      by_cases h2:r<=57
      . have h2':(r:Int)<=57:=by omega
        have HR:Hid (tagN r=true):=by show _=_;rw[HL.out];simp [h1,h2]
        clear h1 h2
        go_wp2
        go_ret
        exact⟨by rw[HR.out]<;>rfl,rfl⟩
      . have h2':¬ (r:Int)<=57:=by omega
        have HR:Hid (tagN r=false):=by show _=_;rw[HL.out];simp [h2]
        clear h1 h2
        go_wp2
        go_ret
        exact⟨zB (by rw[HR.out];exact decide_eq_false (by omega)),rfl⟩
    . have h1':¬ (48:Int)<=(r:Int):=by omega
      have HR:Hid (tagN r=false):=by show _=_;rw[HL.out];simp [h1]
      clear h1
      go_wp2
      go_ret
      exact⟨by rw[HR.out]<;>rfl,rfl⟩
theorem zpw(r:Nat)(w:World) :
    Calls Tryz.prog 158 #[.int .i32 (r:Int)] w fun e w'=>e=.returned (.bool (zcS r))/\w=w':=by
  have HL:Hid (zcS r=(loN r || decide (r=45))):=rfl
  have HC:=Lib.hid (zeN r)
  go_enter Tryz.func158,Tryz.ntmps158
  go_wp2_with fail
  refine(HC.out w).mono ?_
  rintro e w' ⟨rfl,rfl⟩
  generalize loN r=q at *
  cases q with
  | true=>
    have HR:Hid (zcS r=true):=by show _=_;rw[HL.out];rfl
    go_wp2
    go_ret
    exact⟨by rw[HR.out]<;>rfl,rfl⟩
  | false=>
    by_cases h1:r=45
    . have HR:Hid (zcS r=true):=by show _=_;rw[HL.out];simp [h1]
      have h1':((r:Int)=45):=by omega
      have h1'':((r:Int) == 45)=true:=by simpa using h1'
      clear h1
      go_wp2
      go_ret
      exact⟨by rw[HR.out]<;>rfl,rfl⟩
    . have HR:Hid (zcS r=false):=by show _=_;rw[HL.out];simp [h1]
      have h1':¬ ((r:Int)=45):=by omega
      have h1'':((r:Int) == 45)=false:=by simpa using h1'
      clear h1
      go_wp2
      go_ret
      exact⟨by rw[HR.out]<;>rfl,rfl⟩
structure WantN (F:Nat) (W:Nat->Bool):Prop where
  enters:∀ args w',Sem.run Tryz.prog (callFunc F args) w'=.ok (.enter F args) w'
  tells:∀ (r:Nat) w,Calls Tryz.prog F #[.int .i32 (r:Int)] w fun e w'=>e=.returned (.bool (W r))/\w=w'
  low:∀ r,128<=r->W r=false
theorem zrR:WantN 122 tagN:=⟨fun _ _=>rfl,zrQ,fun r h=>by
  rcases hq:tagN r with _ | _
  . rfl
  . have:=zl2 hq;omega⟩
theorem zpx:WantN 158 zcS:=⟨fun _ _=>rfl,zpw,fun r h=>by
  rcases hq:zcS r with _ | _
  . rfl
  . have:=zjA hq;omega⟩
theorem zpy{F:Nat}{W:Nat->Bool}(H:WantN F W)(r g:Nat)(w:World)(h:w.cell? ⟨g,0,none⟩=some (.func (.func F) #[] #[])) :
    Calls Tryz.prog 156 #[.int .i32 (r:Int),.pointer (some ⟨g,0,none⟩)] w fun e w'=>e=.returned (.bool (!W r))/\w=w':=by
  have HT:=Lib.hid (H.tells r w)
  have HE:=Lib.hid H.enters
  clear H
  go_enter Tryz.func156,Tryz.ntmps156
  go_wp2_with fail
  rw[HE.out]
  refine HT.out.mono ?_
  rintro e w' ⟨rfl,rfl⟩
  go_wp2
  go_ret
  exact⟨rfl,rfl⟩
theorem zdJ(s:ByteArray)(i:Nat)(h:i < s.size)(ha:128<=(s[i]'h).toNat):128<=(Utf8.decode s i).1:=by
  have hn:¬ (s[i]'h).toNat < 128:=by omega
  simp only[Utf8.decode,get_at s i h,hn,if_false]
  repeat' split
  all_goals simp_all [Utf8.runeError]
  all_goals omega
theorem zna(s:ByteArray)(i:Nat)(h:i < s.size)(ha:(s[i]'h).toNat < 128):Utf8.decode s i=((s[i]'h).toNat,1):=by
  simp only[Utf8.decode,get_at s i h,ha,if_true]
def ztI(W:Nat->Bool)(s:ByteArray)(w0:World)(gf:Nat)(wx:World):Prop:=
  ∃ pos:Nat,wx.heap[w0.heap.size]?=some (.stringIter s pos)/\Below w0.heap.size w0 wx/\allN W (s.data.toList.take pos)=true/\s.size<=pos+gf/\pos<=s.size
theorem zpz{W:Nat->Bool}{l:List UInt8}{k:Nat}{b:UInt8}(h:l[k]?=some b):allN W (l.take (k+1))=(allN W (l.take k) && W b.toNat):=by
  rw[zC h]
  unfold allN
  rw[List.all_append]
  simp
theorem zrS{W:Nat->Bool}{l:List UInt8}{k:Nat}{b:UInt8}(h:l[k]?=some b)(hb:W b.toNat=false):allN W l=false:=by
  unfold allN
  rw[List.all_eq_false]
  exact⟨b,List.mem_of_getElem? h,by rw[hb];decide⟩
theorem zik{F:Nat}{W:Nat->Bool}(H:WantN F W)(s:ByteArray)(g:Nat)(w:World)(h:w.cell? ⟨g,0,none⟩=some (.func (.func F) #[] #[])) :
    Calls Tryz.prog 196 #[.string s,.func (.func 156) #[] #[.pointer (some ⟨g,0,none⟩)],.bool true] w fun e w'=>(∃ v:Int,e=.returned (.int .i64 v)/\decide (0<=v)=!(allN W s.data.toList))/\Below w.heap.size w w':=by
  have hg:=World.block_lt_of_cell? w _ h
  have HC:Hid (∀ (r:Nat) w',Below w.heap.size w w'->Calls Tryz.prog 156 #[.int .i32 (r:Int),.pointer (some ⟨g,0,none⟩)] w' fun e w''=>e=.returned (.bool (!W r))/\w'=w''):=fun r w' hb=>zpy H r g w' ((hb.cell hg).trans h)
  have HLO:=Lib.hid H.low
  have hsl:s.data.toList.length=s.size:=by rw[Array.length_toList];rfl
  have HSL:=Lib.hid hsl
  clear hsl H h
  go_enter Tryz.func196,Tryz.ntmps196
  go_wp2_with fail
  go_loopg [] s.size (ztI W s w)
  case atStart=>exact⟨0,World.iter_heap w s 0,(Below.refl _ w).alloc (Nat.le_refl _) _,rfl,by omega,Nat.zero_le _⟩
  case round=>
    obtain⟨pos,hit,hbw,hall,hfu,hps2⟩:=hrel
    have HA:=Lib.hid hall
    clear hall
    by_cases hps:pos < s.size
    . obtain⟨g',rfl⟩:∃ g',gk=g'+1:=⟨gk - 1,by omega⟩
      have hnx:∀ ty,(Instr.next (.pointer (some ⟨w.heap.size,0,none⟩)) true ty).run Tryz.prog wr=_:=fun ty=>Lib.run_next_any_at wr w.heap.size s pos ty hit hps
      have HSK:Hid (s.data.toList[pos]?=some (s[pos]'hps)):=by
        show _=_
        rw[List.getElem?_eq_getElem (by rw[HSL.out];exact hps)]
        rfl
      have HDH:=Lib.hid (zdJ s pos hps)
      have HDL:=Lib.hid (zna s pos hps)
      generalize hsk:s[pos]'hps=x at *
      have hx:=x.toNat_lt
      have HNX:=Lib.hid (zpz (W:=W) HSK.out)
      have HNO:=Lib.hid (zrS (W:=W) HSK.out)
      by_cases hlow:x.toNat < 128
      . have hd:=HDL.out hlow
        rw[hd]at hnx
        have hit2:=Lib.iterAt_heap wr w.heap.size s pos (pos+1) hit
        have hbw2:=Lib.below_iterAt hbw (k:=w.heap.size) (Nat.le_refl _) s (pos+1)
        obtain⟨W2,hWd⟩:∃ W2,wr.iterAt w.heap.size s (pos+1)=W2:=⟨_,rfl⟩
        rw[hWd]at hnx hit2 hbw2
        have HI2:=Lib.hid hit2
        clear hd hlow hWd hit2
        go_wp2_with fail
        refine(HC.out x.toNat W2 hbw2).mono ?_
        rintro e w' ⟨rfl,rfl⟩
        cases hq:W x.toNat with
        | true=>
          have HT:Hid (allN W (s.data.toList.take (pos+1))=true):=by show _=_;rw[HNX.out,HA.out,hq];rfl
          clear hq
          go_wp2_with fail
          go_roundg g'
          case measure=>omega
          case rel=>exact⟨pos+1,HI2.out,hbw2,HT.out,by omega,by omega⟩
        | false=>
          have HT:Hid (allN W s.data.toList=false):=HNO.out hq
          clear hq
          go_wp2_with fail
          go_ret
          refine⟨⟨(pos:Int),rfl,?_⟩,hbw2⟩
          rw[HT.out]
          simp
      . have hhi:=HDH.out (by omega)
        have HWX:Hid (W x.toNat=false):=HLO.out _ (by omega)
        obtain⟨R,hR⟩:∃ R,(Utf8.decode s pos).1=R:=⟨_,rfl⟩
        obtain⟨K,hK⟩:∃ K,(Utf8.decode s pos).2=K:=⟨_,rfl⟩
        rw[hR]at hhi
        have HWR:Hid (W R=false):=HLO.out _ hhi
        rw[hR,hK]at hnx
        have hbw2:=Lib.below_iterAt hbw (k:=w.heap.size) (Nat.le_refl _) s (pos+K)
        obtain⟨W2,hWd⟩:∃ W2,wr.iterAt w.heap.size s (pos+K)=W2:=⟨_,rfl⟩
        rw[hWd]at hnx hbw2
        have HT:Hid (allN W s.data.toList=false):=HNO.out HWX.out
        clear hR hK hWd hlow hhi
        go_wp2_with fail
        refine(HC.out R W2 hbw2).mono ?_
        rw[HWR.out]
        rintro e w' ⟨rfl,rfl⟩
        go_wp2_with fail
        go_ret
        refine⟨⟨(pos:Int),rfl,?_⟩,hbw2⟩
        rw[HT.out]
        simp
    . have hnx:∀ ty,(Instr.next (.pointer (some ⟨w.heap.size,0,none⟩)) true ty).run Tryz.prog wr=_:=fun ty=>Lib.run_next_end_at wr w.heap.size s pos ty hit hps
      have HT:Hid (allN W s.data.toList=true):=by
        show _=_
        have h:=HA.out
        rw[List.take_of_length_le (by rw[HSL.out];omega)]at h
        exact h
      go_wp2_with fail
      go_ret
      refine⟨⟨-1,rfl,?_⟩,hbw⟩
      rw[HT.out]
      rfl
theorem zfo{F:Nat}{W:Nat->Bool}(H:WantN F W)(s:ByteArray)(g:Nat)(w:World)(h:w.cell? ⟨g,0,none⟩=some (.func (.func F) #[] #[])) :
    Calls Tryz.prog 155 #[.string s,.func (.func 156) #[] #[.pointer (some ⟨g,0,none⟩)]] w fun e w'=>e=.returned (.bool (!(allN W s.data.toList)))/\Below w.heap.size w w':=by
  have HI:Hid (Calls Tryz.prog 176 #[.string s,.func (.func 156) #[] #[.pointer (some ⟨g,0,none⟩)]] w fun e w'=>(∃ v:Int,e=.returned (.int .i64 v)/\decide (0<=v)=!(allN W s.data.toList))/\Below w.heap.size w w'):=by
    have HC:=Lib.hid (zik H s g w h)
    clear H h
    go_enter Tryz.func176,Tryz.ntmps176
    go_wp2_with fail
    refine HC.out.mono ?_
    rintro e w' ⟨⟨v,rfl,hv⟩,hb⟩
    have HV:=Lib.hid hv
    clear hv
    go_wp2
    go_ret
    exact⟨⟨v,rfl,HV.out⟩,hb⟩
  clear H h
  go_enter Tryz.func155,Tryz.ntmps155
  go_wp2_with fail
  refine HI.out.mono ?_
  rintro e w' ⟨⟨v,rfl,hv⟩,hb⟩
  have HV:=Lib.hid hv
  clear hv
  go_wp2
  go_ret
  exact⟨zB HV.out,hb⟩
theorem zl4{F:Nat}{W:Nat->Bool}(H:WantN F W)(s:ByteArray)(w:World) :
    Calls Tryz.prog 121 #[.string s,.func (.func F) #[] #[]] w fun e w'=>e=.returned (.bool (allN W s.data.toList))/\Below w.heap.size w w':=by
  go_enter Tryz.func121,Tryz.ntmps121
  go_wp2_with fail
  generalize hw3:w.alloc (.cells #[.func (.func F) #[] #[]] 151)=w3
  have y3:Whole w3 w.heap.size 151 #[.func (.func F) #[] #[]]:=by rw[<-hw3];exact Whole.made _ _ _
  have hb3:Below w.heap.size w w3:=by rw[<-hw3];exact(Below.refl _ _).alloc (Nat.le_refl _) _
  clear hw3
  refine(zfo H s w.heap.size w3 (y3.at_ 0)).mono ?_
  rintro e w4 ⟨rfl,hb4⟩
  go_wp2
  go_ret
  exact⟨zB (by simp),zb hb3 (Nat.le_refl _) hb4⟩
theorem zfx(s:ByteArray):s.data.toList.isEmpty=s.toList.isEmpty:=by rw[ByteArray.toList_eq]
theorem znb(s:ByteArray)(w:World) :
    Calls Tryz.prog 125 #[.string s] w fun e w'=>e=.returned (.bool (zdu s.data.toList))/\Below w.heap.size w w':=by
  have HC:=Lib.hid (zl4 zpx s)
  have HR:Hid (zdu s.data.toList=(!s.toList.isEmpty && allN zcS s.data.toList)):=by show _=_;rw[<-zfx];rfl
  cases he:s.toList.isEmpty with
  | true=>
    rw[he]at HR
    go_enter Tryz.func125,Tryz.ntmps125
    go_wp2_with fail
    go_ret
    exact⟨by rw[HR.out];rfl,Below.refl _ _⟩
  | false=>
    rw[he]at HR
    go_enter Tryz.func125,Tryz.ntmps125
    go_wp2_with fail
    refine(HC.out w).mono ?_
    rintro e w1 ⟨rfl,hb1⟩
    go_wp2_with fail
    go_ret
    exact⟨by rw[HR.out];rfl,hb1⟩
theorem zpA(s:ByteArray)(w:World) :
    Calls Tryz.prog 84 #[.string s] w fun e w'=>e=.returned (.bool (tagH s.data.toList))/\Below w.heap.size w w':=by
  have HC:=Lib.hid (zl4 zrR s)
  have HR:Hid (tagH s.data.toList=(!s.toList.isEmpty && (loN (s.data.toList.headD 0).toNat && allN tagN s.data.toList))):=by show _=_;rw[<-zfx];rfl
  cases he:s.toList.isEmpty with
  | true=>
    rw[he]at HR
    go_enter Tryz.func84,Tryz.ntmps84
    go_wp2_with fail
    go_ret
    exact⟨by rw[HR.out];rfl,Below.refl _ _⟩
  | false=>
    rw[he]at HR
    have hpos:0 < s.size:=by
      rcases Nat.eq_zero_or_pos s.size with h | h
      . rw[<-zfx]at he
        have:s.data.toList=[]:=List.eq_nil_of_length_eq_zero (by rw[Array.length_toList];exact h)
        rw[this]at he
        cases he
      . exact h
    have HX:Hid (s.data.toList.headD 0=s[0]'hpos):=by
      show _=_
      cases s with
      | mk d=>
        cases d with
        | mk l=>
          cases l with
          | nil=>rw[<-zfx]at he;cases he
          | cons b l=>rfl
    generalize hx:s[0]'hpos=x at *
    rw[HX.out]at HR
    have HLT:=Lib.hid (zeN x.toNat)
    have hxl:=x.toNat_lt
    have hcv:IntKind.i32.wrap (x.toNat:Int)=(x.toNat:Int):=by
      unfold IntKind.wrap
      simp [IntKind.bits,IntKind.signed]
      omega
    go_enter Tryz.func84,Tryz.ntmps84
    go_wp2_with fail
    refine(HLT.out w).mono ?_
    rintro e w1 ⟨rfl,rfl⟩
    generalize loN x.toNat=q at *
    cases q with
    | false=>
      go_wp2_with fail
      go_ret
      exact⟨by rw[HR.out];rfl,Below.refl _ _⟩
    | true=>
      go_wp2_with fail
      refine(HC.out w).mono ?_
      rintro e w1 ⟨rfl,hb1⟩
      go_wp2_with fail
      go_ret
      exact⟨by rw[HR.out];rfl,hb1⟩
end Go.Proofs.YtddgabjhligeeaaGreat.mk
