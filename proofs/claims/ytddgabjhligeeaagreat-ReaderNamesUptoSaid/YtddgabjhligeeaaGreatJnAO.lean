import Derived.Test.YtddgabjhligeeaaGreatJnAK
import Derived.Test.YtddgabjhligeeaaGreatJnAH
import Derived.Deep.DeepCutAuto
set_option maxHeartbeats 2000000
set_option maxRecDepth 100000
namespace Go.Proofs.YtddgabjhligeeaaGreat.mk
open Go.RowKit
def NmRel(inner:List UInt8)(w0:World)(i:Value)(wr:World):Prop:=
  ∃ k:Nat,k<=6/\i=.int .i64 (k:Int)/\(∀ (j:Nat) (nm:List UInt8) (c:Int),j < k->nameL[j]?=some (nm,c)->nmC inner nm=false)/\Below w0.heap.size w0 wr
def FmRel(inner:List UInt8)(w0:World)(i:Value)(wr:World):Prop:=
  ∃ k:Nat,k<=3/\i=.int .i64 (k:Int)/\(∀ (j:Nat) (bg:List UInt8) (base:Int),j < k->zeK[j]?=some (bg,base)->fmC inner bg base=false)/\Below w0.heap.size w0 wr
theorem zn6{a:ByteArray}{x y:Int}(h:x=y):Ending.returned (.tuple #[.string a,.int .i64 x])=.returned (.tuple #[.string a,.int .i64 y]):=by rw[h]
theorem zpM{t p:ByteArray}{nm:List UInt8}(h:p.data.toList=nm++ [59]):(t.data.toList.take p.size == p.data.toList)=nmC t.data.toList nm:=by
  have e:p.size=nm.length+1:=by
    have:=congrArg List.length h
    rw[Array.length_toList,List.length_append]at this
    exact this
  unfold nmC
  rw[e,h]
theorem zhX(s:ByteArray)(hs:s.size<=4294967296)(w:World) :
    Calls Tryz.prog 175 #[.string s] w fun e w'=>e=.returned (.tuple #[.string (zeJ s.data.toList).1,.int .i64 ((zeJ s.data.toList).2:Nat)])/\Below w.heap.size w w':=by
  cases hp:(s.data.toList.take 1 == [38]) with
  | false=>
    have HR:Hid (zeJ s.data.toList=(⟨#[]⟩,0)):=by
      refine zde ?_
      cases hl:s.data.toList with
      | nil=>rfl
      | cons x r=>rw[hl]at hp;exact zcg (by intro e;subst e;simp at hp)
    have hc:=zkl s ⟨#[38]⟩ hp
    go_enter Tryz.func175,Tryz.ntmps175
    go_wp2_with fail
    refine(hc _).mono ?_
    rintro e w' ⟨rfl,rfl⟩
    go_wp2_with fail
    go_ret2
    exact⟨by rw[HR.out];rfl,Below.refl _ _⟩
  | true=>
    have hl:∃ r,s.data.toList=38::r:=by
      cases hl:s.data.toList with
      | nil=>rw[hl]at hp;simp at hp
      | cons x r=>rw[hl]at hp;simp at hp;subst hp;exact⟨r,rfl⟩
    obtain⟨inner,hl⟩:=hl
    have hc:=zhw s ⟨#[38]⟩ hp
    have ht:(s.extract 1 s.size).data.toList=inner:=by rw[zfw,hl];rfl
    have htz:(s.extract 1 s.size).size<=s.size:=by rw[ByteArray.size_extract];omega
    rw[hl]
    change ∀ (w:World),Calls Tryz.prog 105 #[.string s,.string ⟨#[38]⟩] w fun e w'=>e=.returned (.tuple #[.string (s.extract 1 s.size),.bool true])/\w=w' at hc
    generalize s.extract 1 s.size=t at *
    have HC:=Lib.hid hc
    have HT:=Lib.hid ht
    clear hc hp hl
    subst ht
    have HPF:Hid (∀ (p nb:ByteArray),p.data.toList=nb.data.toList++ [59]->∀ w:World,Calls Tryz.prog 45 #[.string t,.string p] w fun e w'=>e=.returned (.bool (nmC t.data.toList nb.data.toList))/\w=w'):=fun p nb h w=>by
      have h2:=zaR t p w
      rw[zpM h]at h2
      exact h2
    go_enter Tryz.func175,Tryz.ntmps175
    go_wp2_with fail
    refine(HC.out _).mono ?_
    rintro e w' ⟨rfl,rfl⟩
    go_wp2_with fail
    refine(zeL _).mono ?_
    rintro e w1 ⟨rfl,hb1⟩
    have HCH:=Lib.hid zoL
    generalize zem=cv at *
    go_wp2_with fail
    obtain⟨wo,rfl⟩:∃ wo:World,wo=w1:=⟨_,rfl⟩
    go_loopw [22] (NmRel t.data.toList w) (fun i _=>6 - (intOf i).toNat)
    case atStart=>exact⟨0,Nat.zero_le _,rfl,fun j _ _ h=>by omega,hb1⟩
    case round=>
      obtain⟨k,hk,rfl,hno,hbl⟩:=hrel
      have HNO:=Lib.hid hno
      clear hno
      have hws:=hbl.size
      by_cases hlt:k < 6
      . obtain⟨nb,c,hn,hz,ft⟩:=HCH.out k hlt
        have hk3:(k:Int) < 6:=by omega
        have HN:=Lib.hid hn
        clear hn
        go_wp2_with fail
        with_reducible refine(HPF.out (nb++ ⟨#[59]⟩) nb (by rw[ByteArray.data_append,Array.toList_append]) _).mono ?_
        rintro e w' ⟨rfl,rfl⟩
        obtain⟨g,hg⟩:∃ g,g=wr.heap.size:=⟨_,rfl⟩
        have y0:Whole (wr.alloc (.cells #[.string nb,.int .i64 c] 194)) g 194 #[.string nb,.int .i64 c]:=by rw[hg];exact Whole.made _ _ _
        have hbl4:Below w.heap.size w (wr.alloc (.cells #[.string nb,.int .i64 c] 194)):=hbl.alloc hws _
        rw[<-hg]
        clear hg
        generalize wr.alloc (.cells #[.string nb,.int .i64 c] 194)=w4 at *
        cases hm:nmC t.data.toList nb.data.toList with
        | false=>
          have HNX:Hid (∀ (j:Nat) (nm:List UInt8) (d:Int),j < k+1->nameL[j]?=some (nm,d)->nmC t.data.toList nm=false):=by
            intro j nm d hj hjn
            rcases Nat.lt_or_ge j k with h | h
            . exact HNO.out j nm d h hjn
            . obtain rfl:j=k:=by omega
              have:=HN.out.symm.trans hjn
              injection this with this
              injection this with h1 h2
              rw[<-h1];exact hm
          clear hm
          go_wp2_with fail
          go_roundw
          case rel=>exact⟨k+1,by omega,by go_num,HNX.out,hbl4⟩
          case measure=>simp [intOf];omega
        | true=>
          have hr:=znk HN.out hm
          have HR:Hid (zeJ (38::t.data.toList)=(numB c,nb.data.toList.length+2)):=zdd hr
          have hnl:nb.data.toList.length=nb.size:=by rw[Array.length_toList];rfl
          have HNL:=Lib.hid hnl
          have c0:w4.cell? ⟨g,0,none⟩=some (.string nb):=y0.at_ 0
          have c1:w4.cell? ⟨g,1,none⟩=some (.int .i64 c):=y0.at_ 1
          have HKS:Hid (∀ w',Below w4.heap.size w4 w'->w'.cell? ⟨g,0,none⟩=some (.string nb)/\w'.cell? ⟨g,1,none⟩=some (.int .i64 c)/\Below w4.heap.size w4 w'):=fun w' h=>⟨(h.cell y0.lt).trans (y0.at_ 0),(h.cell y0.lt).trans (y0.at_ 1),h⟩
          have e1:IntKind.i64.wrap (1+(nb.size:Int))=1+(nb.size:Int):=IntWalk.i64_in _ (by omega)
          have e2:IntKind.i64.wrap (1+(nb.size:Int)+1)=1+(nb.size:Int)+1:=IntWalk.i64_in _ (by omega)
          clear hm hr hnl y0
          go_wp2_with fail
          go_region_held3 (fun w'=>w'.cell? ⟨g,0,none⟩=some (.string nb)/\w'.cell? ⟨g,1,none⟩=some (.int .i64 c)/\Below w4.heap.size w4 w')
            (first
              | exact HKS.out _ (Below.drew (Below.refl _ _))
              | (go_split_ands;exact HKS.out _ (by assumption))
              | (go_split_ands;exact HKS.out _ (zf (by assumption) (Nat.le_refl _) (by assumption))))
            (first
              | (go_at_call 193;refine(ze9 c _).mono ?_;rintro e w5 ⟨rfl,hb5⟩))
          all_goals
            go_wp2_with fail
            go_ret2
            exact⟨by rw[HR.out];exact zn6 (by rw[HNL.out];omega),zf hbl4.drew (Nat.le_refl _) hb5⟩
      . have HMISS:Hid (∀ (j:Nat) (nm:List UInt8) (c:Int),nameL[j]?=some (nm,c)->nmC t.data.toList nm=false):=fun j nm c h=>HNO.out j nm c (by have h6:j < 6:=(List.getElem?_eq_some_iff.1 h).1;omega) h
        clear HNO
        go_wp2_with fail
        refine(zla _).mono ?_
        rintro e w2 ⟨rfl,hb2⟩
        have hbl2:=zf hbl (Nat.le_refl _) hb2
        have HFM:=Lib.hid zoM
        generalize zgS=fv at *
        clear hbl hb2
        go_wp2_with fail
        obtain⟨wo,rfl⟩:∃ wo:World,wo=w2:=⟨_,rfl⟩
        go_loopw [40] (FmRel t.data.toList w) (fun i _=>3 - (intOf i).toNat)
        case atStart=>exact⟨0,Nat.zero_le _,rfl,fun j _ _ h=>by omega,hbl2⟩
        case round=>
          obtain⟨k,hk,rfl,hno,hbl⟩:=hrel
          have HNO:=Lib.hid hno
          clear hno hbl2
          have hws:=hbl.size
          by_cases hlt:k < 3
          . obtain⟨nb,base,hn,hz,ft⟩:=HFM.out k hlt
            have hk3:(k:Int) < 3:=by omega
            have HN:=Lib.hid hn
            have hbs:base=10\/base=16:=(ziR hn).2.1
            have HBS:=Lib.hid hbs
            have hnl:nb.data.toList.length=nb.size:=by rw[Array.length_toList];rfl
            have HNL:=Lib.hid hnl
            obtain⟨g,hg⟩:∃ g,g=wr.heap.size:=⟨_,rfl⟩
            have y0:Whole (wr.alloc (.cells #[.string nb,.int .i64 base] 199)) g 199 #[.string nb,.int .i64 base]:=by rw[hg];exact Whole.made _ _ _
            have hbl4:Below w.heap.size w (wr.alloc (.cells #[.string nb,.int .i64 base] 199)):=hbl.alloc hws _
            have c0:=y0.at_ 0
            have c1:=y0.at_ 1
            have HGO:Hid (fmC t.data.toList nb.data.toList base=false->∀ (j:Nat) (bg:List UInt8) (d:Int),j < k+1->zeK[j]?=some (bg,d)->fmC t.data.toList bg d=false):=by
              intro hm j nm d hj hjn
              rcases Nat.lt_or_ge j k with h | h
              . exact HNO.out j nm d h hjn
              . obtain rfl:j=k:=by omega
                have:=HN.out.symm.trans hjn
                injection this with this
                injection this with h1 h2
                rw[<-h1,<-h2];exact hm
            clear hn hnl hbs
            cases hpre:(t.data.toList.take nb.size == nb.data.toList) with
            | false=>
              have hcn:=zkl t nb hpre
              have hm:fmC t.data.toList nb.data.toList base=false:=by
                unfold fmC
                rw[HNL.out,hpre]
                rfl
              have HNX:=Lib.hid (HGO.out hm)
              clear hm hpre
              have HCN:=Lib.hid hcn
              clear hcn
              go_wp2_with fail
              rw[<-hg]
              clear hg
              generalize wr.alloc (.cells #[.string nb,.int .i64 base] 199)=w4 at *
              refine(HCN.out _).mono ?_
              rintro e w' ⟨rfl,rfl⟩
              go_wp2_with fail
              refine(ze4 t base HBS.out (by omega) _).mono ?_
              rintro e w' ⟨rfl,rfl⟩
              generalize zaQ t.data.toList (digV base)=d at *
              generalize valC 1114112 base (t.data.toList.take d)=v at *
              go_wp2_with fail
              go_roundw
              case rel=>exact⟨k+1,by omega,by go_num,HNX.out,hbl4⟩
              case measure=>simp [intOf];omega
            | true=>
              have hcy:=zhw t nb hpre
              have HRL:Hid ((t.extract nb.size t.size).data.toList=rsF t.data.toList nb.data.toList):=by
                show _=_
                unfold rsF
                rw[zfw,HNL.out]
              have hrz:(t.extract nb.size t.size).size<=t.size:=by rw[ByteArray.size_extract];omega
              generalize t.extract nb.size t.size=r at *
              have HFC:Hid (fmC t.data.toList nb.data.toList base=(decide (0 < zaQ r.data.toList (digV base)) && ((r.data.toList.drop (zaQ r.data.toList (digV base))).take 1 == [59]))):=by
                show _=_
                unfold fmC dgF
                rw[HNL.out,hpre,HRL.out,Bool.true_and]
              have hdz:=ziQ r.data.toList (digV base)
              rw[Array.length_toList]at hdz
              have HCY:=Lib.hid hcy
              clear hcy hpre
              go_wp2_with fail
              rw[<-hg]
              clear hg
              generalize wr.alloc (.cells #[.string nb,.int .i64 base] 199)=w4 at *
              refine(HCY.out _).mono ?_
              rintro e w' ⟨rfl,rfl⟩
              go_wp2_with fail
              refine(ze4 r base HBS.out (by omega) _).mono ?_
              rintro e w' ⟨rfl,rfl⟩
              have HHIT:Hid (fmC t.data.toList nb.data.toList base=true->zeJ (38::t.data.toList)=(numB (valC 1114112 base (r.data.toList.take (zaQ r.data.toList (digV base)))),nb.size+zaQ r.data.toList (digV base)+2)):=by
                intro h
                have h2:=znl HN.out h
                have hb1:1<=base:=by have:=HBS.out;omega
                rw[zdd h2.1]
                unfold dgF at h2 ⊢
                rw[<-HRL.out]at h2 ⊢
                rw[znc (by omega) hb1 _ h2.2,HNL.out]
              generalize zaQ r.data.toList (digV base)=d at *
              generalize valC 1114112 base (r.data.toList.take d)=v at *
              have hdz2:d<=r.size:=hdz
              by_cases hd:0 < d
              . have hsem:((r.extract d r.size).data.toList.take (ByteArray.mk #[59]).size == (ByteArray.mk #[59]).data.toList)=((r.data.toList.drop d).take 1 == [59]):=by
                  rw[zfw]
                  rfl
                have HF2:Hid (fmC t.data.toList nb.data.toList base=((r.data.toList.drop d).take 1 == [59])):=by
                  show _=_
                  rw[HFC.out,decide_eq_true hd,Bool.true_and]
                have hhp:=fun w'=>zaR (r.extract d r.size) ⟨#[59]⟩ w'
                rw[hsem]at hhp
                generalize ((r.data.toList.drop d).take 1 == [59])=q at *
                have HHP:=Lib.hid hhp
                have hd0:(0:Int)<=(d:Int):=Int.natCast_nonneg _
                have hd1:(0:Int) < (d:Int):=by omega
                have hd2:(d:Int)<=(r.size:Int):=by omega
                clear hhp hsem hdz HFC
                go_wp2_with fail
                refine(HHP.out _).mono ?_
                rintro e w' ⟨rfl,rfl⟩
                cases q with
                | false=>
                  have HNX:=Lib.hid (HGO.out HF2.out)
                  go_wp2_with fail
                  go_roundw
                  case rel=>exact⟨k+1,by omega,by go_num,HNX.out,hbl4⟩
                  case measure=>simp [intOf];omega
                | true=>
                  have HR:=Lib.hid (HHIT.out HF2.out)
                  have HKS:Hid (∀ w',Below w4.heap.size w4 w'->w'.cell? ⟨g,0,none⟩=some (.string nb)/\w'.cell? ⟨g,1,none⟩=some (.int .i64 base)/\Below w4.heap.size w4 w'):=fun w' h=>⟨(h.cell y0.lt).trans (y0.at_ 0),(h.cell y0.lt).trans (y0.at_ 1),h⟩
                  have e1:IntKind.i64.wrap (1+(nb.size:Int))=1+(nb.size:Int):=IntWalk.i64_in _ (by omega)
                  have e2:IntKind.i64.wrap (1+(nb.size:Int)+(d:Int))=1+(nb.size:Int)+(d:Int):=IntWalk.i64_in _ (by omega)
                  have e3:IntKind.i64.wrap (1+(nb.size:Int)+(d:Int)+1)=1+(nb.size:Int)+(d:Int)+1:=IntWalk.i64_in _ (by omega)
                  clear y0
                  go_wp2_with fail
                  go_region_held3 (fun w'=>w'.cell? ⟨g,0,none⟩=some (.string nb)/\w'.cell? ⟨g,1,none⟩=some (.int .i64 base)/\Below w4.heap.size w4 w')
                    (first
                      | exact HKS.out _ (Below.drew (Below.refl _ _))
                      | (go_split_ands;exact HKS.out _ (by assumption))
                      | (go_split_ands;exact HKS.out _ (zf (by assumption) (Nat.le_refl _) (by assumption))))
                    (first
                      | (go_at_call 193;refine(ze9 v _).mono ?_;rintro e w5 ⟨rfl,hb5⟩))
                  all_goals
                    go_wp2_with fail
                    go_ret2
                    exact⟨by rw[HR.out];exact zn6 (by omega),zf hbl4.drew (Nat.le_refl _) hb5⟩
              . obtain rfl:d=0:=by omega
                have HNX:=Lib.hid (HGO.out (by rw[HFC.out];rfl))
                clear hdz hdz2 HHIT HFC
                go_wp2_with fail
                go_roundw
                case rel=>exact⟨k+1,by omega,by go_num,HNX.out,hbl4⟩
                case measure=>simp [intOf];omega
          . have HR:Hid (zeJ (38::t.data.toList)=(⟨#[]⟩,0)):=zde (zjA HMISS.out (fun j bg base h=>HNO.out j bg base (by have h6:j < 3:=(List.getElem?_eq_some_iff.1 h).1;omega) h))
            go_wp2_with fail
            go_ret2
            exact⟨by rw[HR.out];rfl,hbl⟩
theorem znu(s:ByteArray)(n:Nat):(s.extract 0 n).data.toList=s.data.toList.take n:=by
  rw[ByteArray.data_extract,Array.toList_extract,List.extract_eq_take_drop]
  simp
theorem zpN{a b:ByteArray}(h:a.data.toList=b.data.toList):a=b:=by
  cases a with | mk a=>cases b with | mk b=>congr 1;exact Array.toList_inj.1 h
theorem zhY(s:ByteArray)(hs0:1<=s.size)(hs:s.size<=4294967296)(w:World) :
    Calls Tryz.prog 152 #[.string s] w fun e w'=>e=.returned (.tuple #[.string ⟨(zcz s.data.toList).1.toArray⟩,.int .i64 ((zcz s.data.toList).2:Nat)])/\Below w.heap.size w w':=by
  go_enter Tryz.func152,Tryz.ntmps152
  go_wp2_with fail
  refine(zhX s hs _).mono ?_
  cases hr:zbM s.data.toList with
  | none=>
    rw[zde hr]
    rintro e w1 ⟨rfl,hb1⟩
    have HX:Hid ((zcz s.data.toList)=(s.data.toList.take 1,1)):=zdg hr
    have HE:Hid (s.extract 0 1=⟨(s.data.toList.take 1).toArray⟩):=by
      show _=_
      refine zpN ?_
      rw[znu]
    have h1:(1:Int)<=(s.size:Int):=by omega
    clear hr
    go_wp2_with fail
    go_ret2
    exact⟨by rw[HX.out,<-HE.out];rfl,hb1⟩
  | some p=>
    obtain⟨n,k⟩:=p
    rw[zdd hr]
    rintro e w1 ⟨rfl,hb1⟩
    have HX:Hid ((zcz s.data.toList)=((numB n).data.toList,k)):=zdf hr
    have hk:=(ziP hr).1
    have hk1:(0:Int) < (k:Int):=by omega
    clear hr
    generalize numB n=b at *
    go_wp2_with fail
    go_ret2
    exact⟨by rw[HX.out];rfl,hb1⟩
def noS:Nat->Prop:=fun _=>False
theorem RwSt.lies{N:Nat}{qs:List (Int × Int)}{ta:Value}{w0:World}{bs:List UInt8}{os:List Int}{v:Value}{w:World}(h:RwSt N noS qs ta w0 bs os v w){t:TypeId}{cs:Array Value}{g:Nat}(hg:g < N+2)(hw:Whole w0 g t cs):Whole w g t cs:=
  hw.same (h.2.2.2.2.1.block g hg (fun h=>h))
def EdMid(L out:List (UInt8 × Int))(k lf:Nat)(wo:Int)(p:List UInt8)(e z:Nat):Prop:=
  0 < lf/\(1<=p.length/\p.length<=4)/\e<=k/\e+z=k+lf/\wo=worT (L.drop e) (k - e)/\decE L=out++ (putE p (worT (L.drop e) z)++ decE (L.drop (k+lf)))/\k+lf<=L.length
theorem EdMid.start{L out:List (UInt8 × Int)}{k:Nat}(h:L.drop k≠[])(hd:decE L=out++ decE (L.drop k)):EdMid L out k (nxE (L.drop k)).2 0 (nxE (L.drop k)).1 k (nxE (L.drop k)).2:=by
  have hb:=zgP h
  have hb2:=hb.2.1
  rw[List.length_drop]at hb2
  refine⟨hb.1,⟨hb.2.2.1,hb.2.2.2.2⟩,Nat.le_refl _,rfl,by rw[Nat.sub_self];rfl,?_,by omega⟩
  rw[hd,zbN h,List.drop_drop]
theorem EdMid.next{L out:List (UInt8 × Int)}{k lf:Nat}{wo:Int}{p:List UInt8}{e z:Nat}{c:UInt8 × Int}(h:EdMid L out k lf wo p e z)(hc:L[k]?=some c)(hl:lf≠1):EdMid L out (k+1) (lf - 1) (max wo c.2) p e z:=by
  obtain⟨h1,h2,h3,h4,h5,h6,h7⟩:=h
  refine⟨by omega,h2,by omega,by omega,?_,?_,by omega⟩
  . have hx:(L.drop e)[k - e]?=some c:=by rw[List.getElem?_drop,show e+(k - e)=k by omega];exact hc
    rw[show k+1 - e=(k - e)+1 by omega,zd5 hx,h5]
  . rw[show k+1+(lf - 1)=k+lf by omega];exact h6
theorem EdMid.last{L out:List (UInt8 × Int)}{k:Nat}{wo:Int}{p:List UInt8}{e z:Nat}{c:UInt8 × Int}(h:EdMid L out k 1 wo p e z)(hc:L[k]?=some c):decE L=(out++ putE p (max wo c.2))++ decE (L.drop (k+1)):=by
  obtain⟨h1,h2,h3,h4,h5,h6,h7⟩:=h
  have hx:(L.drop e)[k - e]?=some c:=by rw[List.getElem?_drop,show e+(k - e)=k by omega];exact hc
  have hz:z=(k - e)+1:=by omega
  rw[hz,zd5 hx,<-h5]at h6
  rw[h6,List.append_assoc]
def EdK(N:Nat)(L:List (UInt8 × Int))(sz:Nat)(qs:List (Int × Int))(ta:Value)(w0:World)(k:Nat)(v at_ part left worst:Value)(wr:World):Prop:=
  at_=.int .i64 (k:Int)/\k<=sz/\∃ (lf:Nat) (wo:Int) (pb:ByteArray) (out:List (UInt8 × Int)),left=.int .i64 (lf:Int)/\worst=.int .i64 wo/\part=.string pb/\
    ((lf=0/\decE L=out++ decE (L.drop k)/\RwSt N noS qs ta w0 (out.map (·.1)) (out.map (·.2)) v wr)\/
      (∃ e z,EdMid L out k lf wo pb.data.toList e z/\RwSt N noS qs ta w0 (out.map (·.1)++ pb.data.toList) (out.map (·.2)) v wr))
theorem EdK.st{N:Nat}{L:List (UInt8 × Int)}{sz:Nat}{qs:List (Int × Int)}{ta:Value}{w0:World}{k:Nat}{v at_ part left worst:Value}{wr:World}(h:EdK N L sz qs ta w0 k v at_ part left worst wr) :
    ∃ bs os,RwSt N noS qs ta w0 bs os v wr:=by
  obtain⟨_,_,lf,wo,pb,out,_,_,_,h | ⟨e,z,_,h⟩⟩:=h
  . exact⟨_,_,h.2.2⟩
  . exact⟨_,_,h⟩
theorem EdK.below{N:Nat}{L:List (UInt8 × Int)}{sz:Nat}{qs:List (Int × Int)}{ta:Value}{w0:World}{k:Nat}{v at_ part left worst:Value}{wr w':World}(h:EdK N L sz qs ta w0 k v at_ part left worst wr)(hb:Below wr.heap.size wr w'):EdK N L sz qs ta w0 k v at_ part left worst w':=by
  obtain⟨h1,h2,lf,wo,pb,out,h3,h4,h5,h | ⟨e,z,hm,h⟩⟩:=h
  . exact⟨h1,h2,lf,wo,pb,out,h3,h4,h5,.inl ⟨h.1,h.2.1,h.2.2.below hb⟩⟩
  . exact⟨h1,h2,lf,wo,pb,out,h3,h4,h5,.inr ⟨e,z,hm,h.below hb⟩⟩
def zpO(N:Nat)(L:List (UInt8 × Int))(sz:Nat)(qs:List (Int × Int))(ta:Value)(w0:World)(v at_ part left worst i:Value)(wr:World):Prop:=
  ∃ j:Nat,j<=qs.length/\i=.int .i64 (j:Int)/\EdK N L sz qs ta w0 (zd (qs.take j)).length v at_ part left worst wr
def EdIn(N:Nat)(L:List (UInt8 × Int))(sz:Nat)(qs:List (Int × Int))(ta:Value)(w0:World)(r d:Nat)(l o:Int)(v at_ part left worst i:Value)(wr:World):Prop:=
  ∃ m k:Nat,k=d+m/\(m:Int)<=l/\i=.int .i64 (m:Int)/\EdK N L sz qs ta w0 k v at_ part left worst wr/\Whole wr r 53 #[.int .i64 l,.int .i64 o]/\v.ownBlock≠some r
theorem zfS(s:ByteArray)(A:Option Addr)(n c:Nat)(rs:List (Int × Int))(w:World)(hl:Lies w w.heap.size A (zc rs))(hn:rs.length=n)(hs:s.size<=4294967296)(hn2:n<=4294967296) :
    Calls Tryz.prog 114 #[.agg #[.string s,.slice A n c]] w (zdJ ⟨((decE (chars s.data.toList rs)).map (·.1)).toArray⟩ (comp ((decE (chars s.data.toList rs)).map (·.2))) w):=by
  have HN:=Lib.hid hn
  clear hn
  have hsl:s.data.toList.length=s.size:=by rw[Array.length_toList];rfl
  have HSL:=Lib.hid hsl
  clear hsl
  go_enter Tryz.func114,Tryz.ntmps114
  go_wp2_with fail
  refine(zbU s A n c rs _ ?_ HN.out (by omega) hn2).mono ?_
  . exact(((hl.alloc (Nat.le_refl _) _).alloc (by simp) _).alloc (by simp;omega) _).mono (by simp;omega)
  rintro e w3 ⟨v,rfl,hown,hb3⟩
  obtain⟨A3,c3,rfl,_,_,_⟩:=zh hown
  have fr1:=fun w'=>zc5 s A3 (zan s.size rs).length c3 w'
  go_wp2_with fail
  clear fr1
  simp only[World.size_alloc]at hown hb3
  have hz3:=hb3.size
  simp only[World.size_alloc]at hz3
  have hex:zd (zan s.size rs)=zF s.size rs:=zM _
  have hpos:∀ r∈zan s.size rs,1<=r.1:=zaP _
  have hql:(zan s.size rs).length<=s.size:=by have:=zD (zF s.size rs);rw[zC]at this;exact this
  have hLs:(chars s.data.toList rs).map (·.2)=zF s.size rs:=by rw[za5,HSL.out]
  have hLn:(chars s.data.toList rs).length=s.size:=by rw[zbq,HSL.out]
  have hLat:∀ (k:Nat) (hk:k < s.size) (o:Int),(zF s.size rs)[k]?=some o->(chars s.data.toList rs)[k]?=some (s[k]'hk,o):=fun k hk o ho=>ziu hk ho
  have hLf:(chars s.data.toList rs).map (·.1)=s.data.toList:=zbG _ _
  have hLi:InR (chars s.data.toList rs):=InR.chars _ _
  generalize hL:chars s.data.toList rs=L at *
  generalize hqs:zan s.size rs=qs at *
  have hexl:(zd qs).length=s.size:=by rw[hex,zC]
  have y0:Whole w3 w.heap.size 24 #[.string s,.slice A n c]:=(((Whole.made w _ _).alloc _).alloc _).below hb3 (by omega)
  have y1:Whole w3 (w.heap.size+1) 24 #[.string ⟨#[]⟩,.slice none 0 0]:=by
    have h:=(Whole.made (w.alloc (.cells #[.string s,.slice A n c] 24)) 24 #[.string ⟨#[]⟩,.slice none 0 0]).alloc (.cells #[.pointer none,.slice none 0 0] 68)
    simp only[World.size_alloc]at h
    exact h.below hb3 (by omega)
  have hi0:Lib.IsBuilderF 68 5 (w.heap.size+2) (w.heap.size+2) (Lib.byteCells []) w3:=by
    have h:=Lib.IsBuilderF.of (Lib.fresh_isBuilder 68 5 ((w.alloc (.cells #[.string s,.slice A n c] 24)).alloc (.cells #[.string ⟨#[]⟩,.slice none 0 0] 24)))
    simp only[World.size_alloc]at h
    exact zaz h (hb3.mono (by simp)) (by decide)
  have hbw:Below w.heap.size w w3:=((((Below.refl _ _).alloc (Nat.le_refl _) _).alloc (by simp) _).alloc (by simp;omega) _).trans (hb3.mono (by omega))
  have hst0:RwSt w.heap.size noS qs (.slice A3 qs.length c3) w3 [] [] (.slice none 0 0) w3:=
    ⟨World.ownsRow_nil _ _ _ _,hown,by intro g hg;simp [Value.ownBlock]at hg,hi0,Kept.refl _ _ _,by omega⟩
  have HST:=Lib.hid hst0
  have HEX:=Lib.hid hex
  have HEL:=Lib.hid hexl
  have HPOS:=Lib.hid hpos
  have HLS:=Lib.hid hLs
  have HLN:=Lib.hid hLn
  have HLAT:=Lib.hid hLat
  have HLF:=Lib.hid hLf
  have HLI:=Lib.hid hLi
  have HLL:=Lib.hid hL
  have HDL:Hid ((decE L).length<=s.size):=by have h:=zdO L;rw[hLn]at h;exact h
  clear hst0 hown hi0 hb3 hqs hex hexl hpos hLs hLn hLat hLf hLi hL
  generalize hqn:qs.length=z at *
  have HZ:=Lib.hid hqn
  clear hqn
  go_loopw [4,5,6,7,8,15] (zpO w.heap.size L s.size qs (.slice A3 z c3) w3) (fun _ _ _ _ _ i _=>z - (intOf i).toNat)
  case atStart=>exact⟨0,Nat.zero_le _,rfl,by simp [zd],Nat.zero_le _,0,0,⟨#[]⟩,[],rfl,rfl,rfl,.inl ⟨rfl,by simp [zd],by simpa using HST.out⟩⟩
  case round=>
    obtain⟨j,hj,rfl,hdk⟩:=hrel
    rw[HZ.out]at hj
    have HK:=Lib.hid hdk
    obtain⟨bs0,os0,hst⟩:=hdk.st
    obtain⟨rfl,hks,lf0,wo0,pb0,out0,rfl,rfl,rfl,_⟩:=hdk
    have hwz:w.heap.size+3<=wr.heap.size:=hst.2.2.2.2.2
    have HST2:=Lib.hid hst
    clear hst
    by_cases hjl:j < z
    . have hta2:=HST2.out.2.1
      rw[HZ.out]at hta2
      obtain⟨ad',l,o,rfl,hbA,hd1,hd2,HR⟩:=(Lies.own hta2).run (k:=j) (by rw[HZ.out];exact hjl)
      have hl1:1<=l:=HPOS.out (l,o) (List.mem_of_getElem? HR.out)
      have HNX:=Lib.hid (zb6 HR.out)
      have hx2:=zcb qs (j+1)
      rw[HNX.out,HEL.out]at hx2
      have HAT:Hid (∀ m:Nat,(m:Int) < l->(zF s.size rs)[(zd (qs.take j)).length+m]?=some o):=fun m hm=>by rw[<-HEX.out];exact zgx HR.out (by omega)
      clear hta2
      generalize hd:(zd (qs.take j)).length=d at *
      have HD:=Lib.hid hd
      clear hd
      have hj0:(0:Int)<=(j:Int):=Int.natCast_nonneg _
      have hj1:(j:Int) < (z:Int):=by omega
      obtain⟨g,hg⟩:∃ g,g=wr.heap.size:=⟨_,rfl⟩
      have hgz:w.heap.size+3<=g:=by omega
      have HSI2:Hid (EdIn w.heap.size L s.size qs (.slice (some ad') z c3) w3 g d l o u4 (.int .i64 (d:Int)) (.string pb0) (.int .i64 (lf0:Int)) (.int .i64 wo0) (.int .i64 0) (wr.alloc (.cells #[.int .i64 l,.int .i64 o] 53))):=by
        rw[hg]
        exact⟨0,d,rfl,by omega,rfl,HK.out.below ((Below.refl _ _).alloc (Nat.le_refl _) _),Whole.made _ _ _,fun e=>by have:=(HST2.out.1.lt _ e).2;omega⟩
      have hc0g:(wr.alloc (.cells #[.int .i64 l,.int .i64 o] 53)).cell? ⟨g,0,none⟩=some (.int .i64 l):=by rw[hg];exact(Whole.made wr _ _).at_ 0
      clear HK HST2
      go_wp2_with fail
      generalize hw4:wr.alloc (.cells #[.int .i64 l,.int .i64 o] 53)=w4 at *
      rw[<-hg]
      clear hg hw4 hd1 hd2 hc0g
      go_loopw [4,5,6,7,8,21] (EdIn w.heap.size L s.size qs (.slice (some ad') z c3) w3 g d l o) (fun _ _ _ _ _ i _=>l.toNat - (intOf i).toNat)
      case atStart=>exact HSI2.out
      case round=>
        obtain⟨m,k,hkd,hml,rfl,⟨rfl,hks2,lf1,wo1,pb1,out,rfl,rfl,rfl,hcase⟩,hrb,hvg⟩:=hrel
        have HCASE:=Lib.hid hcase
        have HRB:=Lib.hid hrb
        have HKD:=Lib.hid hkd
        have HVG:=Lib.hid hvg
        have hbz:w.heap.size+3<=wr.heap.size:=by rcases hcase with h | ⟨_,_,_,h⟩<;>exact(by first | exact h.2.2.2.2.2.2.2 | exact h.2.2.2.2.2)
        clear hcase HSI2 hvg hrb
        by_cases hm:(m:Int) < l
        . have hk:k < s.size:=by omega
          have HLK:Hid (L[k]?=some (s[k]'hk,o)):=HLAT.out k hk o (by rw[hkd];exact HAT.out m hm)
          clear hkd
          have HM:=Lib.hid hm
          generalize hsk:s[k]'hk=x at *
          clear hsk
          have hk0:(0:Int)<=(k:Int):=Int.natCast_nonneg _
          have hk1:(k:Int) < (s.size:Int):=by omega
          have hk2:(k:Int)<=(s.size:Int):=by omega
          rcases HCASE.out with ⟨rfl,hdec,hst⟩ | ⟨e0,z0,hmid,hst⟩
          case inl=>
            have ct:wr.cell? ⟨w.heap.size,0,none⟩=some (.string s):=(hst.lies (g:=w.heap.size) (by omega) y0).at_ 0
            have hne:L.drop k≠[]:=by
              intro h
              have:=congrArg List.length h
              rw[List.length_drop,HLN.out,List.length_nil]at this
              omega
            have hmid:=EdMid.start hne hdec
            have hfr:zcz (s.extract k s.size).data.toList=nxE (L.drop k):=by
              rw[zfw]
              unfold nxE
              rw[List.map_drop,HLF.out]
            have HFR:=Lib.hid hfr
            have HMID0:=Lib.hid hmid
            have HST0:=Lib.hid hst
            have hol:out.length<=s.size:=by
              have h:=HDL.out
              rw[hdec,List.length_append]at h
              omega
            clear hne hmid hfr hdec hst
            go_wp2_with fail
            refine(zhY (s.extract k s.size) (by rw[ByteArray.size_extract];omega) (by rw[ByteArray.size_extract];omega) _).mono ?_
            rw[HFR.out]
            rintro e w5 ⟨rfl,hb5⟩
            have hz5:=hb5.size
            have hst5:=HST0.out.below hb5
            have hrb5:=HRB.out.below hb5 HRB.out.lt
            generalize hpp:(nxE (L.drop k)).1=pp at *
            generalize (nxE (L.drop k)).2=lf at *
            obtain⟨pb,hpb⟩:∃ pb:ByteArray,pb=⟨pp.toArray⟩:=⟨_,rfl⟩
            have hpd:pb.data.toList=pp:=by rw[hpb]
            rw[<-hpb]
            rw[<-hpd]at HMID0
            clear hpb hpp
            subst hpd
            have HS5:=Lib.hid hst5
            have HRB5:=Lib.hid hrb5
            clear hst5 hrb5
            have hp4':=HMID0.out.2.1.2
            rw[Array.length_toList]at hp4'
            have hp4'':pb.size<=4:=hp4'
            clear hp4'
            go_wp2_with fail
            refine(zas (w.heap.size+2) (w.heap.size+2) (Lib.byteCells (out.map (·.1))) pb _ HS5.out.2.2.2.1 (by rw[Lib.byteCells_length,List.length_map];omega) (by omega)).mono ?_
            rintro e w6 ⟨rfl,hbu,hbl,hoth⟩
            have HS6:=Lib.hid (HS5.out.write hbu hbl hoth)
            have HRB6:Hid (Whole w6 g 53 #[.int .i64 l,.int .i64 o]):=hoth _ _ HRB5.out (by intro e;injection e with e;omega) (by intro c fz e;injection e with _ e _;exact absurd e (by decide))
            obtain⟨e0,he0⟩:∃ e0,e0=k:=⟨_,rfl⟩
            obtain⟨z0,hz0⟩:∃ z0,z0=lf:=⟨_,rfl⟩
            have HMID:Hid (EdMid L out k lf 0 pb.data.toList e0 z0):=by rw[he0,hz0];exact HMID0.out
            clear he0 hz0 hbu hbl hoth HMID0
            obtain⟨hm1,⟨hp1,hp4⟩,hm3,hm4,hm5,hm6,hm7⟩:=id HMID.out
            have hlz:lf<=s.size:=by have:=HLN.out;omega
            clear hm5 hm6 hm7
            have hpl:pb.data.toList.length=pb.size:=by rw[Array.length_toList];rfl
            rw[hpl]at hp1 hp4
            have HPL:=Lib.hid hpl
            clear hpl
            have HX:=Lib.hid HLK.out
            by_cases hl1':lf=1
            . subst hl1'
              have hdl:=HMID.out.last HLK.out
              have hol:(out.map (·.2)).length<=s.size:=by
                have h:=HDL.out
                rw[hdl,List.length_append,List.length_append]at h
                rw[List.length_map]
                omega
              have HDLL:=Lib.hid hdl
              have hw6:w.heap.size+3<=w6.heap.size:=HS6.out.2.2.2.2.2
              have hc1:w6.cell? ⟨g,1,none⟩=some (.int .i64 o):=HRB6.out.at_ 1
              clear hdl
              go_wp2_with fail
              refine(zik (w.heap.size+3) u4 (out.map (·.2)) pb.size (max 0 o) w6 HS6.out.1 hw6 (by omega) hp1 (by omega)).mono ?_
              rintro e w7 ⟨v7,rfl,hown7,hg7,hat7⟩
              have hst7:=HS6.out.join hown7 hg7 hat7
              have hrb7:Whole w7 g 53 #[.int .i64 l,.int .i64 o]:=HRB6.out.grown hg7 (fun e=>HVG.out e.symm)
              have hvg7:v7.ownBlock≠some g:=by
                rcases hat7 with e | ⟨q,hq,e⟩
                . rw[e];exact HVG.out
                . rw[e];intro e2;injection e2 with e2;have:=HRB6.out.lt;omega
              have HREL:Hid (EdIn w.heap.size L s.size qs (.slice (some ad') z c3) w3 g d l o v7 (.int .i64 ((k+1:Nat):Int)) (.string pb) (.int .i64 0) (.int .i64 (max 0 o)) (.int .i64 ((m+1:Nat):Int)) w7):=
                ⟨m+1,k+1,by have:=HKD.out;omega,by have:=HM.out;omega,rfl,⟨rfl,by omega,0,max 0 o,pb,out++ putE pb.data.toList (max 0 o),rfl,rfl,rfl,.inl ⟨rfl,HDLL.out,by rw[List.map_append,List.map_append,ziq,zfx,HPL.out];exact hst7⟩⟩,hrb7,hvg7⟩
              clear hst7 hrb7 hvg7 hown7 hg7 hat7
              go_wp2_with fail
              go_roundw
              case rel=>
                have h:=HREL.out
                first | exact h | (simpa using h)
              case measure=>simp [intOf];omega
            . have hmn:=HMID.out.next HLK.out hl1'
              have HREL:Hid (EdIn w.heap.size L s.size qs (.slice (some ad') z c3) w3 g d l o u4 (.int .i64 ((k+1:Nat):Int)) (.string pb) (.int .i64 ((lf:Int) - 1)) (.int .i64 (max 0 o)) (.int .i64 ((m+1:Nat):Int)) w6):=by
                refine⟨m+1,k+1,by have:=HKD.out;omega,by have:=HM.out;omega,rfl,⟨rfl,by omega,lf - 1,max 0 o,pb,out,?_,rfl,rfl,.inr ⟨e0,z0,hmn,HS6.out⟩⟩,HRB6.out,HVG.out⟩
                congr 1
                omega
              have hc1:w6.cell? ⟨g,1,none⟩=some (.int .i64 o):=HRB6.out.at_ 1
              have hlf2:¬ (lf:Int)=1:=by omega
              have hlf3:(((lf:Int) - 1) == 0)=false:=by rw[beq_eq_false_iff_ne];omega
              clear hmn
              go_wp2_with fail
              go_roundw
              case rel=>
                have h:=HREL.out
                first | exact h | (simpa using h)
              case measure=>simp [intOf];omega
          case inr=>
            have HMID:=Lib.hid hmid
            have HS6:=Lib.hid hst
            have HRB6:=Lib.hid HRB.out
            obtain⟨lf,rfl⟩:∃ lf:Nat,lf=lf1:=⟨_,rfl⟩
            obtain⟨pb,rfl⟩:∃ pb:ByteArray,pb=pb1:=⟨_,rfl⟩
            obtain⟨w6,rfl⟩:∃ w6:World,w6=wr:=⟨_,rfl⟩
            have hlf0:((lf:Int) == 0)=false:=by rw[beq_eq_false_iff_ne];have:=hmid.1;omega
            clear hmid hst
            obtain⟨hm1,⟨hp1,hp4⟩,hm3,hm4,hm5,hm6,hm7⟩:=id HMID.out
            have hlz:lf<=s.size:=by have:=HLN.out;omega
            clear hm5 hm6 hm7
            have hpl:pb.data.toList.length=pb.size:=by rw[Array.length_toList];rfl
            rw[hpl]at hp1 hp4
            have HPL:=Lib.hid hpl
            clear hpl
            have HX:=Lib.hid HLK.out
            by_cases hl1':lf=1
            . subst hl1'
              have hdl:=HMID.out.last HLK.out
              have hol:(out.map (·.2)).length<=s.size:=by
                have h:=HDL.out
                rw[hdl,List.length_append,List.length_append]at h
                rw[List.length_map]
                omega
              have HDLL:=Lib.hid hdl
              have hw6:w.heap.size+3<=w6.heap.size:=HS6.out.2.2.2.2.2
              have hc1:w6.cell? ⟨g,1,none⟩=some (.int .i64 o):=HRB6.out.at_ 1
              clear hdl
              go_wp2_with fail
              refine(zik (w.heap.size+3) u4 (out.map (·.2)) pb.size (max wo1 o) w6 HS6.out.1 hw6 (by omega) hp1 (by omega)).mono ?_
              rintro e w7 ⟨v7,rfl,hown7,hg7,hat7⟩
              have hst7:=HS6.out.join hown7 hg7 hat7
              have hrb7:Whole w7 g 53 #[.int .i64 l,.int .i64 o]:=HRB6.out.grown hg7 (fun e=>HVG.out e.symm)
              have hvg7:v7.ownBlock≠some g:=by
                rcases hat7 with e | ⟨q,hq,e⟩
                . rw[e];exact HVG.out
                . rw[e];intro e2;injection e2 with e2;have:=HRB6.out.lt;omega
              have HREL:Hid (EdIn w.heap.size L s.size qs (.slice (some ad') z c3) w3 g d l o v7 (.int .i64 ((k+1:Nat):Int)) (.string pb) (.int .i64 0) (.int .i64 (max wo1 o)) (.int .i64 ((m+1:Nat):Int)) w7):=
                ⟨m+1,k+1,by have:=HKD.out;omega,by have:=HM.out;omega,rfl,⟨rfl,by omega,0,max wo1 o,pb,out++ putE pb.data.toList (max wo1 o),rfl,rfl,rfl,.inl ⟨rfl,HDLL.out,by rw[List.map_append,List.map_append,ziq,zfx,HPL.out];exact hst7⟩⟩,hrb7,hvg7⟩
              clear hst7 hrb7 hvg7 hown7 hg7 hat7
              go_wp2_with fail
              go_roundw
              case rel=>
                have h:=HREL.out
                first | exact h | (simpa using h)
              case measure=>simp [intOf];omega
            . have hmn:=HMID.out.next HLK.out hl1'
              have HREL:Hid (EdIn w.heap.size L s.size qs (.slice (some ad') z c3) w3 g d l o u4 (.int .i64 ((k+1:Nat):Int)) (.string pb) (.int .i64 ((lf:Int) - 1)) (.int .i64 (max wo1 o)) (.int .i64 ((m+1:Nat):Int)) w6):=by
                refine⟨m+1,k+1,by have:=HKD.out;omega,by have:=HM.out;omega,rfl,⟨rfl,by omega,lf - 1,max wo1 o,pb,out,?_,rfl,rfl,.inr ⟨e0,z0,hmn,HS6.out⟩⟩,HRB6.out,HVG.out⟩
                congr 1
                omega
              have hc1:w6.cell? ⟨g,1,none⟩=some (.int .i64 o):=HRB6.out.at_ 1
              have hlf2:¬ (lf:Int)=1:=by omega
              have hlf3:(((lf:Int) - 1) == 0)=false:=by rw[beq_eq_false_iff_ne];omega
              clear hmn
              go_wp2_with fail
              go_roundw
              case rel=>
                have h:=HREL.out
                first | exact h | (simpa using h)
              case measure=>simp [intOf];omega
        . obtain rfl:l=(m:Int):=by omega
          have HREL:Hid (zpO w.heap.size L s.size qs (.slice (some ad') z c3) w3 u4 (.int .i64 (k:Int)) (.string pb1) (.int .i64 (lf1:Int)) (.int .i64 wo1) (.int .i64 ((j+1:Nat):Int)) wr):=by
            refine⟨j+1,by rw[HZ.out];omega,rfl,?_⟩
            rw[HNX.out,Int.toNat_natCast,<-HKD.out]
            exact⟨rfl,hks2,lf1,wo1,pb1,out,rfl,rfl,rfl,HCASE.out⟩
          go_wp2_with fail
          go_roundw
          case rel=>
            have h:=HREL.out
            first | exact h | (rw[HKD.out]at h;simpa using h)
          case measure=>simp [intOf];omega
    . obtain rfl:j=z:=by omega
      have hfull:(zd (qs.take j)).length=s.size:=by rw[List.take_of_length_le (by rw[HZ.out];exact Nat.le_refl _),HEL.out]
      have hdk:=HK.out
      rw[hfull]at hdk
      obtain⟨_,_,lf,wo,pb,out,_,_,_,hcase⟩:=hdk
      have hzl:L.drop s.size=[]:=List.drop_of_length_le (by rw[HLN.out];exact Nat.le_refl _)
      have hfin:decE L=out/\RwSt w.heap.size noS qs (.slice A3 j c3) w3 (out.map (·.1)) (out.map (·.2)) u4 wr:=by
        rcases hcase with ⟨_,h1,h2⟩ | ⟨e,zz,hm,_⟩
        . rw[hzl,zb0,List.append_nil]at h1
          exact⟨h1,h2⟩
        . exfalso
          have h:=hm.2.2.2.2.2.2
          have h0:=hm.1
          rw[HLN.out]at h
          omega
      obtain⟨hdo,hst⟩:=hfin
      rw[<-hdo]at hst
      have HST3:=Lib.hid hst
      have hEn:=HDL.out
      clear hst hdo hcase hzl hfull
      have hqq:=zD ((decE L).map (·.2))
      rw[List.length_map]at hqq
      go_wp2_with fail
      refine(Tryz.Builder_String_any_k (w.heap.size+2) (w.heap.size+2) ((decE L).map (·.1)) wr HST3.out.2.2.2.1 (by omega)).mono ?_
      rintro e w5 ⟨rfl,_,hbl5,hoth5⟩
      have ho5:=zaA HST3.out.1 hoth5 (by omega)
      have hkp:=HST3.out.2.2.2.2.1.below hbl5
      have hW:=(y1.same (hkp.block _ (by omega) (fun hs=>hs)))
      have f0:=hW.free 0
      have f1:=hW.free 1
      have d0:w5.cell? ⟨w.heap.size+1,0,none⟩=some (.string ⟨#[]⟩):=hW.at_ 0
      have d1:w5.cell? ⟨w.heap.size+1,1,none⟩=some (.slice none 0 0):=hW.at_ 1
      obtain⟨A5,c5,rfl,_,_,_⟩:=zh ho5
      have HO5:=Lib.hid ho5
      have HKP:=Lib.hid hkp
      clear ho5 hkp
      generalize hq1:(decE L).map (·.1)=st at *
      generalize hq2:comp ((decE L).map (·.2))=q at *
      have HQ1:=Lib.hid hq1
      have HQ2:=Lib.hid hq2
      clear hq1 hq2
      go_wp2
      refine bodyPost_ret (v:=.agg #[.string ⟨st.toArray⟩,.slice A5 q.length c5]) ?_ rfl ?_
      . simp [results,Tryz.results114,go_sem,d0,d1]
      . have hk:=HKP.out
        have hbf:Below w.heap.size w w5:=⟨hk.os.trans hbw.os,hk.tape.trans hbw.tape,hk.output.trans hbw.output,Nat.le_trans hbw.size hk.size,fun g hg=>(hk.block g (by omega) (fun hs=>hs)).trans (hbw.block g hg)⟩
        first | rw[HLL.out,HQ1.out,HQ2.out] | skip
        exact zaE (Nat.le_succ _) (zI (base:=w.heap.size+3) HO5.out (by omega)) hbf
theorem zfb{l:Ch}{name:List UInt8}{c:UInt8 × Int}(h:l[name.length+2]?=some c):zdh l name=((spcB c.1 || (c.1 == 47 || c.1 == 62)) && ((lowL (l.take (name.length+2))).map (·.1) == [60,47]++ name)):=by
  unfold zdh
  rw[h]
end Go.Proofs.YtddgabjhligeeaaGreat.mk
