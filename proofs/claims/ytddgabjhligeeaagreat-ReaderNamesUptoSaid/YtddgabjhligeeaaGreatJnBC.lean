/-
  ReaderNames,where what comes in is of bulk at most 1048576: for every list of trees glazierlaw15.ReaderNames returns true: reader.Names tells the names of all elements and attributes of the merged trees,in order,each byte with its origin.
  Conditions: none beside the bound that the statement itself names.
-/
import Derived.Test.YtddgabjhligeeaaGreatJnZ
import Derived.Test.YtddgabjhligeeaaGreatJnBA
import Derived.Test.YtddgabjhligeeaaGreatJnBB
import Derived.Test.YtddgabjhligeeaaGreatJnAN
set_option maxHeartbeats 8000000
set_option maxRecDepth 100000
namespace Go.Proofs.YtddgabjhligeeaaGreat.mk
open Go.RowKit Go.Maps
def TK.kt(t:TK):KT:=⟨(t.kind:Int),t.nm,t.A,t.n,t.c,t.ats,t.close,t.tx⟩
theorem znR(ts:List TK):zdn (ts.map TK.kt)=zb4 ts:=by
  unfold zdn zb4
  rw[List.flatMap_map]
  rfl
theorem zp3(ts:List TK):(ts.map TK.kt).map KT.ch=(ts.map TK.pt).map toKP:=by
  rw[List.map_map,List.map_map]
  rfl
theorem zp4{t:KP}{L:List KP}(h:t∈L):t.bk<=kbL L:=by
  induction L with
  | nil=>cases h
  | cons a L ih=>
    have e:kbL (a::L)=a.bk+kbL L:=by unfold kbL;rw[List.map_cons,List.sum_cons]
    rcases List.mem_cons.1 h with rfl | h
    . omega
    . have:=ih h;omega
theorem zpg{w:World}{base c:Nat}{A:Option Addr}{ts:List TK}{L:List PTok}(ho:w.ownsRow base 98 7 (.slice A ts.length c) ts.length (zb4 ts))(hk:∀ t∈ts,OwnT w base t)(hp:ts.map TK.pt=L)(hL:kbL (L.map toKP)<=1048575) :
    ToksIn (fun b=>b < w.heap.size) w A ts.length (ts.map TK.kt):=by
  have hlt:∀ b,base<=b->b < w.heap.size->b < w.heap.size:=fun b _ h=>h
  refine⟨?_,?_,by rw[List.length_map],by rw[zp3,hp];exact hL⟩
  . rw[znR]
    exact(zbZ ho).mono hlt
  . intro t ht
    obtain⟨x,hx,rfl⟩:=List.mem_map.1 ht
    obtain⟨h1,h2,h3,h4,h5⟩:=hk x hx
    have ham:x.n<=1048576:=by
      have e1:x.pt∈L:=by rw[<-hp];exact List.mem_map.2 ⟨x,hx,rfl⟩
      have e2:(toKP x.pt).bk<=kbL (L.map toKP):=zp4 (List.mem_map.2 ⟨x.pt,e1,rfl⟩)
      have e3:x.ats.length<=(toKP x.pt).bk:=by
        show _<=x.nm.ch.length+(x.ats.map AT.ch).length+x.tx.ch.length+1
        rw[List.length_map]
        omega
      omega
    obtain⟨_,_,ev,hA,_,_⟩:=zh h2
    injection ev with e1 _ e3
    refine⟨h1.inS.mono hlt,h5.inS.mono hlt,(zbZ h2).mono hlt,h3,fun e=>?_,ham,fun a ha=>⟨((h4 a ha).1.inS).mono hlt,((h4 a ha).2.inS).mono hlt⟩⟩
    have e':x.A=none:=e
    show x.c=0
    rw[e3]
    exact hA (by rw[<-e1];exact e')
theorem zid(a:LT)(w:World)(ha:a.ok w w.heap.size):Calls Tryz.prog 13 #[.agg #[.string a.s,.slice a.A a.n a.c]] w (zfV (zO a.ch) w):=by
  refine(zkH a.s a.A a.n a.c a.rs w ha.1 ha.2.1 ha.2.2.2 ha.2.2.1).mono fun e w' h=>zcY (l:=zO a.ch) (InR.lines a.ch_in) ?_ h
  have h1:=zaV a.ch
  have h2:=ha.2.2.2
  rw[LT.ch_length]at h1
  omega
theorem zhl(a:LT)(w:World)(ha:a.ok w w.heap.size)(hs:a.s.size<=268435456):Calls Tryz.prog 12 #[.agg #[.string a.s,.slice a.A a.n a.c]] w (zfV (rep a.ch) w):=by
  refine(zjq a.s a.A a.n a.c a.rs w ha.1 ha.2.1 hs ha.2.2.1).mono fun e w' h=>zcY (l:=rep a.ch) (InR.rep a.ch_in) ?_ h
  have h1:=zcq a.ch
  rw[LT.ch_length]at h1
  omega
def zp5(l:Ch)(w:World)(e:Ending)(w':World):Prop:=
  ∃ (K:Option Addr) (kn kc:Nat) (kids:List TT),e=.returned (.tuple #[.slice K kn kc,.int .i64 0])/\Hid (TreesIn0 w' K kn kids/\chL kids=zlq l)/\Below w.heap.size w w'
theorem zkc(u:LT)(mx:Int)(w:World)(hu:u.ok w w.heap.size)(l:Ch)(hl:u.ch=rep (zO l))(hz:l.length<=65536)(hmx:w.cell? ⟨0,0,none⟩=some (.int .i64 mx)) :
    Calls Tryz.prog 11 #[.agg #[.string u.s,.slice u.A u.n u.c]] w fun e w'=>∃ (A:Option Addr) (n c:Nat) (ts:List KT),e=.returned (.slice A n c)/\Hid (ToksIn (fun b=>b < w'.heap.size) w' A n ts/\zcU (ts.map KT.ch)=zlq l)/\Below w.heap.size w w':=by
  have h1:=zaV l
  have h2:=zcq (zO l)
  have h3:=zjJ (rep (zO l))
  have hus:u.s.size=u.ch.length:=(LT.ch_length u).symm
  refine(zhk u mx w hu (by rw[hus,hl];omega) hmx).mono ?_
  rintro e w' ⟨A,c,ts,rfl,hq,hb⟩
  obtain⟨ho,hk,hp⟩:=hq.out
  refine⟨A,ts.length,c,ts.map TK.kt,rfl,⟨zpg ho hk hp (by rw[hl];omega),?_⟩,hb⟩
  rw[zp3,hp,hl]
  rfl
theorem zmr(a:LT)(mx:Int)(w:World)(ha:a.ok w w.heap.size)(hmx:w.cell? ⟨0,0,none⟩=some (.int .i64 mx)) :
    Calls Tryz.prog 9 #[.agg #[.string a.s,.slice a.A a.n a.c]] w fun e w'=>(65536 < a.s.size/\e=.returned (.tuple #[.slice none 0 0,.int .i64 5])/\Below w.heap.size w w')\/(a.s.size<=65536/\zp5 a.ch w e w'):=by
  have HM:=Lib.hid hmx
  have hlo:0 < w.heap.size:=zdi _ _ _ hmx
  have HA:=Lib.hid ha
  clear hmx ha
  go_enter Tryz.func9,Tryz.ntmps9
  go_upto_region 1 with fail
  generalize hw0:w.alloc (.cells #[.string a.s,.slice a.A a.n a.c] 24)=w0
  have y0:Whole w0 w.heap.size 24 #[.string a.s,.slice a.A a.n a.c]:=by rw[<-hw0];exact Whole.made w _ _
  have HB0:Hid (Below w.heap.size w w0):=by rw[<-hw0];exact(Below.refl _ _).alloc (Nat.le_refl _) _
  clear hw0
  have c0:=y0.at_ 0
  have c1:=y0.at_ 1
  clear y0
  by_cases hz:65536 < a.s.size
  . have hz':(65536:Int) < (a.s.size:Int):=by omega
    go_wp2_with fail
    go_ret2
    exact .inl ⟨hz,rfl,HB0.out⟩
  . have hz':¬ (65536:Int) < (a.s.size:Int):=by omega
    have HZ:Hid (a.ch.length<=65536):=by show _<=_;rw[LT.ch_length];omega
    go_wp2_with fail
    refine(zid a w0 (HA.out.next HB0.out (Nat.le_refl _))).mono ?_
    rintro e w1 ⟨u1,rfl,h1,hb1⟩
    have HB1:Hid (Below w.heap.size w w1):=zf HB0.out (Nat.le_refl _) hb1
    have HU1:=Lib.hid h1.out
    clear h1 hb1
    go_wp2_with fail
    refine(zhl u1 w1 HU1.out.2.ok (by have h:=zaV a.ch;rw[<-HU1.out.1,LT.ch_length]at h;have:=HZ.out;omega)).mono ?_
    rw[HU1.out.1]
    rintro e w2 ⟨u2,rfl,h2,hb2⟩
    have HB2:Hid (Below w.heap.size w w2):=zf HB1.out (Nat.le_refl _) hb2
    have HU2:=Lib.hid h2.out
    clear h2 hb2
    go_wp2_with fail
    refine(zkc u2 mx w2 HU2.out.2.ok a.ch HU2.out.1 HZ.out ((HB2.out.cell hlo).trans HM.out)).mono ?_
    rintro e w3 ⟨A3,n3,c3,ts,rfl,h3,hb3⟩
    have HB3:Hid (Below w.heap.size w w3):=zf HB2.out (Nat.le_refl _) hb3
    have HU3:=Lib.hid h3.out
    clear h3 hb3
    go_wp2_with fail
    refine(zmq A3 n3 c3 ts w3 HU3.out.1 (fun b h=>h)).mono ?_
    rintro e w4 ⟨K,kn,kc,kids,rfl,hin,hch,hb4⟩
    have HB4:Hid (Below w.heap.size w w4):=zf HB3.out (Nat.le_refl _) hb4
    have HIN:=Lib.hid hin
    have HCH:=Lib.hid hch
    clear hin hch hb4
    go_wp2_with fail
    go_ret2
    exact .inr ⟨by omega,K,kn,kc,kids,rfl,⟨HIN.out,HCH.out.trans HU3.out.2⟩,HB4.out⟩
end Go.Proofs.YtddgabjhligeeaaGreat.mk
namespace Go.Proofs.YtddgabjhligeeaaGreat.mk
open Go.RowKit
def zp6(S:Nat->Prop)(ts:List TT)(n:Nat)(w:World)(s3 s4 _s5:Value)(wr:World):Prop:=
  ∃ (k:Nat) (us:List LT),k<=n/\s4=.int .i64 (k:Int)/\NmRow S wr w.heap.size us s3/\us.map LT.ch=lawN ((chL ts).take k)/\Below w.heap.size w wr
def zp7(S:Nat->Prop)(al:List AT)(n:Nat)(us1:List LT)(base:Nat)(wb:World)(s3 s5:Value)(wr:World):Prop:=
  ∃ k:Nat,k<=n/\s5=.int .i64 (k:Int)/\NmRow S wr base (us1++ (al.take k).map (·.nm)) s3/\Below base wb wr
theorem zie:∀ (Q:List PT) (S:Nat->Prop) (A:Option Addr) (n c:Nat) (ts:List TT) (w:World),chL ts=Q->(∀ b,S b->b < w.heap.size)->LiesS S w A (ze ts)->AllS S w ts->ts.length=n->bkL Q<=1048576->
    Calls Tryz.prog 21 #[.slice A n c] w fun e w'=>∃ (A':Option Addr) (m c':Nat) (us:List LT),e=.returned (.slice A' m c')/\Hid (NmRow S w' w.heap.size us (.slice A' m c')/\us.length=m/\us.map LT.ch=lawN (chL ts))/\Below w.heap.size w w':=by
  apply PT.ind
  intro Q IH S A n c ts w hq hS hl ha hn hbk
  subst hq
  obtain⟨i0,hi,hz0,hz1,hz2⟩:=info_parts zbS
  have HS:=Lib.hid hS
  have HL:Hid (∀ W,Below w.heap.size w W->LiesS S W A (ze ts)):=fun W h=>hl.keep (Stays.of h)
  have HA:Hid (∀ W,Below w.heap.size w W->AllS S W ts):=fun W h=>ha.keep (Stays.of h)
  have HN:=Lib.hid hn
  have HBK:=Lib.hid hbk
  have hn2:n<=1048576:=by
    have h1:=zau (chL ts)
    rw[zv,hn]at h1
    omega
  have HTL:Hid (∀ k,(lawN ((chL ts).take k)).length<=1048576):=fun k=>by
    have h1:=ziC ((chL ts).take k)
    have h2:=zfD (chL ts) k
    omega
  have HI:Hid (∀ x∈ts,∀ W,Below w.heap.size w W->Calls Tryz.prog 21 #[.slice x.K x.kn x.kc] W fun e w'=>∃ (A':Option Addr) (m c':Nat) (us:List LT),e=.returned (.slice A' m c')/\Hid (NmRow S w' W.heap.size us (.slice A' m c')/\us.length=m/\us.map LT.ch=lawN (chL x.kids))/\Below W.heap.size W w'):=fun x hx W hb=>by
    have hm:x.ch∈chL ts:=by rw[zeb];exact List.mem_map.2 ⟨x,hx,rfl⟩
    have hxs:=(ha.keep (Stays.of hb)).get hx
    have hbx:=ziy hm
    rw[TT.ch_kids]at hbx
    exact IH x.ch hm S x.K x.kn x.kc x.kids W (TT.ch_kids x).symm (fun b h=>Nat.lt_of_lt_of_le (HS.out b h) hb.size) hxs.kid ((ha.keep (Stays.of hb)).kids hx) hxs.kn (by rw[TT.ch_kids];omega)
  clear IH hS hl ha hn hbk
  go_enter Tryz.func21,Tryz.ntmps21
  go_wp2_with fail
  go_loopw [3,4,5] (zp6 S ts n w) (fun _ i _ _=>n - (intOf i).toNat)
  case atStart=>exact⟨0,[],Nat.zero_le _,rfl,NmRow.zero _ _ _,by rw[List.take_zero,lawN];rfl,Below.refl _ _⟩
  case round=>
    obtain⟨k,us,hk,rfl,hrow,hus,hb⟩:=hrel
    obtain⟨wq,rfl⟩:∃ wq:World,wq=wr:=⟨_,rfl⟩
    have HB:=Lib.hid hb
    have hzw:=hb.size
    have HROW:=Lib.hid hrow
    obtain⟨A3,c3,rfl,hown,_⟩:=hrow
    have HUS:=Lib.hid hus
    have hul:us.length<=1048576:=by
      have h1:=HTL.out k
      rw[<-hus,List.length_map]at h1
      exact h1
    have HOW:=Lib.hid hown
    have HGB:Hid (∀ g,(Value.slice A3 us.length c3).ownBlock=some g->w.heap.size<=g):=fun g hg=>(hown.lt g hg).1
    clear hown hus
    by_cases hlt:k < n
    . obtain⟨ad,x,rfl,hbA,d0,d1,d2,d3,d4,d5,HX⟩:=(HL.out wq hb).lies.tree (k:=k) (by rw[HN.out];exact hlt)
      have hk0:(0:Int)<=(k:Int):=Int.natCast_nonneg _
      have hk1:(k:Int) < (n:Int):=by omega
      have HMEM:Hid (x∈ts):=List.mem_of_getElem? HX.out
      have HKS:Hid (∀ W,Below w.heap.size w W->W.cell? ⟨(ad.add (k * 6)).block,(ad.add (k * 6)).off+2,none⟩=some (.slice x.A x.n x.c)/\W.cell? ⟨(ad.add (k * 6)).block,(ad.add (k * 6)).off+3,none⟩=some (.slice x.K x.kn x.kc)):=fun W h=>by
        obtain⟨ad2,x2,e,_,_,_,f2,f3,_,_,hx2⟩:=(HL.out W h).lies.tree (k:=k) (by rw[HN.out];exact hlt)
        injection e with e
        subst e
        have h3:=hx2.out
        rw[HX.out]at h3
        injection h3 with h3
        subst h3
        exact⟨f2,f3⟩
      have HXI:Hid (∀ W,Below w.heap.size w W->x.inS S W):=fun W h=>(HA.out W h).get HMEM.out
      have HNX:Hid (lawN ((chL ts).take (k+1))=lawN ((chL ts).take k)++ ((if x.tag.ch=[] then [] else [x.tag.ch])++ (x.atts.map (fun a=>a.nm.ch)++ lawN (chL x.kids)))):=by
        show _=_
        rw[zkB (ziB HX.out),PT.lawN_eq,TT.ch_tag,TT.ch_kids]
        rw[show x.ch.attrs=x.atts.map AT.ch by rw[TT.ch_eq],List.map_map]
        rfl
      have HLE:Hid ((lawN ((chL ts).take k)).length+((if x.tag.ch=[] then [] else [x.tag.ch]:List Ch).length+(x.atts.length+(lawN (chL x.kids)).length))<=1048576):=by
        have h1:=HTL.out (k+1)
        rw[HNX.out,List.length_append,List.length_append,List.length_append,List.length_map]at h1
        exact h1
      have hzz:=hzw
      clear hb hbA hzz
      go_upto_if 18 with fail
      go_cut [3] (fun s3 wx=>NmRow S wx w.heap.size (us++ (if x.tag.ch=[] then [] else [x.tag])) s3/\Below w.heap.size w wx)
      case first=>
        by_cases ht:x.tag.ch=[]
        . have hts:x.tag.s.toList=[]:=(LT.s_nil _).2 ht
          have HE:Hid ((if x.tag.ch=[] then [] else [x.tag]:List LT)=[]):=if_pos ht
          rw[hts]
          clear ht
          go_wp2_with fail
          go_meet
          rw[HE.out,List.append_nil]
          exact⟨HROW.out,HB.out⟩
        . have hes:¬ x.tag.s.toList=[]:=fun h=>ht ((LT.s_nil _).1 h)
          have hx:(x.tag.s.toList == [])=false:=by rw[beq_eq_false_iff_ne];exact hes
          have hx2:x.tag.s.toList.isEmpty=false:=by simpa using hes
          clear hes
          rw[hx2]
          have HE:Hid ((if x.tag.ch=[] then [] else [x.tag]:List LT)=[x.tag]):=if_neg ht
          have hlen:us.length+1<=1048576:=by
            have h1:=HLE.out
            rw[if_neg ht,<-HUS.out,List.length_map,List.length_singleton]at h1
            omega
          clear ht
          go_wp2_with (at_builtin;refine wpList_append_own_at _ rfl _ _ 42 rfl w.heap.size 24 i0 _ 2 40 Tryz.underlying42 hi hz0 hz1 hz2 rfl (by decide) (.slice A3 us.length c3) us.length _ rfl (HOW.out.alloc _) ⟨wq.heap.size,0,none⟩ 1 1 [.string x.tag.s,.slice x.tag.A x.tag.n x.tag.c] rfl rfl (zT wq _ _) (by simp [Value.oneCell']) (by simp only[maxLen];omega) (by omega) (by simp;omega) ?_)
          intro v' w9 hown9 hgrow _ _
          obtain⟨A9,c9,rfl,_,_,_⟩:=zh hown9
          have hba:=(Below.refl wq.heap.size wq).alloc (Nat.le_refl _) (.cells #[.string x.tag.s,.slice x.tag.A x.tag.n x.tag.c] 24)
          have HF:=Lib.hid (NmRow.more (vs:=[x.tag]) (m:=1) HS.out (HROW.out.keep hba) (fun u hu=>by rw[List.mem_singleton.1 hu];exact(HXI.out _ (zf HB.out (Nat.le_refl _) hba)).tag) rfl rfl hgrow hown9)
          have HG1:Hid (Below w.heap.size w w9):=(zf HB.out (Nat.le_refl _) hba).grown hgrow (by simp;omega) HGB.out
          clear hgrow hown9 hba
          go_wp2_with fail
          go_meet
          rw[HE.out]
          exact⟨HF.out,HG1.out⟩
      case rest=>
        obtain⟨hr1,hb1⟩:=hcut
        have HR1:=Lib.hid hr1
        have HB1:=Lib.hid hb1
        have HLT:Hid ((us++ (if x.tag.ch=[] then [] else [x.tag])).length=us.length+(if x.tag.ch=[] then [] else [x.tag.ch]:List Ch).length):=by
          show _=_
          rw[List.length_append]
          split<;>rfl
        have HCT:Hid ((us++ (if x.tag.ch=[] then [] else [x.tag])).map LT.ch=lawN ((chL ts).take k)++ (if x.tag.ch=[] then [] else [x.tag.ch])):=by
          show _=_
          rw[List.map_append,HUS.out]
          split<;>rfl
        have HUL:Hid (us.length=(lawN ((chL ts).take k)).length):=by show _=_;rw[<-HUS.out,List.length_map]
        generalize us++ (if x.tag.ch=[] then [] else [x.tag])=us1 at *
        obtain⟨A4,c4,rfl,_,_⟩:=hr1
        obtain⟨wo,rfl⟩:∃ wo:World,wo=wc:=⟨_,rfl⟩
        have HXN:Hid (x.atts.length=x.n):=(HXI.out wo hb1).an
        have hxm:=(HXI.out wo hb1).am
        clear hb1 HROW HOW HB d0 d1 d2 d3 d4 d5
        go_wp2_with fail
        go_loopw [3,5] (zp7 S x.atts x.n us1 w.heap.size w) (fun _ i _=>x.n - (intOf i).toNat)
        case atStart=>exact⟨0,Nat.zero_le _,rfl,by rw[List.take_zero,List.map_nil,List.append_nil];exact HR1.out,HB1.out⟩
        case round=>
          obtain⟨k2,hk2,rfl,hr2,hb2⟩:=hrel
          obtain⟨wv,rfl⟩:∃ wv:World,wv=wr:=⟨_,rfl⟩
          have HB2:=Lib.hid hb2
          have HR2:=Lib.hid hr2
          have hl2:(us1++ (x.atts.take k2).map (·.nm)).length=us1.length+k2:=by
            rw[List.length_append,List.length_map,List.length_take,HXN.out]
            omega
          have HSZ:Hid (us1.length+x.n<=1048576):=by
            show _<=_
            have h1:=HLE.out
            rw[<-HUL.out,HXN.out]at h1
            have h2:=HLT.out
            omega
          obtain⟨g2,g3⟩:=HKS.out wv hb2
          have hzv:=hb2.size
          by_cases hlt2:k2 < x.n
          . obtain⟨ae,a,hae,_,e0,e1,_,_,HR⟩:=(HXI.out wv hb2).att.lies.att (k:=k2) (by rw[HXN.out];exact hlt2)
            rw[hae]at g2
            have hk20:(0:Int)<=(k2:Int):=Int.natCast_nonneg _
            have hk21:(k2:Int) < (x.n:Int):=by omega
            have HNM:Hid (us1++ (x.atts.take (k2+1)).map (·.nm)=(us1++ (x.atts.take k2).map (·.nm))++ [a.nm]):=by
              show _=_
              rw[zw HR.out,List.map_append,List.append_assoc]
              rfl
            have HAN:Hid (∀ W,Below wv.heap.size wv W->a.nm.inS S W):=fun W h=>((HXI.out W (zf HB2.out (Nat.le_refl _) h)).atts a (List.mem_of_getElem? HR.out)).1
            generalize hus2:us1++ (x.atts.take k2).map (·.nm)=us2 at *
            obtain⟨A5,c5,rfl,hown5,_⟩:=hr2
            have HG5:Hid (∀ g,(Value.slice A5 us2.length c5).ownBlock=some g->w.heap.size<=g):=fun g hg=>(hown5.lt g hg).1
            have hz2':us2.length+1<=1048576:=by have:=HSZ.out;omega
            clear hb2 hus2 hl2
            go_wp2_with (at_builtin;refine wpList_append_own_at _ rfl _ _ 42 rfl w.heap.size 24 i0 _ 2 40 Tryz.underlying42 hi hz0 hz1 hz2 rfl (by decide) (.slice A5 us2.length c5) us2.length _ rfl (hown5.alloc _) ⟨wv.heap.size,0,none⟩ 1 1 [.string a.nm.s,.slice a.nm.A a.nm.n a.nm.c] rfl rfl (zT wv _ _) (by simp [Value.oneCell']) (by simp only[maxLen];omega) (by omega) (by simp;omega) ?_)
            intro v' w9 hown9 hgrow _ _
            obtain⟨A9,c9,rfl,_,_,_⟩:=zh hown9
            have hba:=(Below.refl wv.heap.size wv).alloc (Nat.le_refl _) (.cells #[.string a.nm.s,.slice a.nm.A a.nm.n a.nm.c] 24)
            have HF:=Lib.hid (NmRow.more (vs:=[a.nm]) (m:=1) HS.out (HR2.out.keep hba) (fun u hu=>by rw[List.mem_singleton.1 hu];exact HAN.out _ hba) rfl rfl hgrow hown9)
            have HG1:Hid (Below w.heap.size w w9):=(zf HB2.out (Nat.le_refl _) hba).grown hgrow (by simp;omega) HG5.out
            clear hgrow hown9 hba hown5
            go_wp2_with fail
            go_roundw
            case rel=>exact⟨k2+1,by omega,by go_num,by rw[HNM.out];exact HF.out,HG1.out⟩
            case measure=>simp [intOf];omega
          . have hk21:¬ (k2:Int) < (x.n:Int):=by omega
            obtain rfl:k2=x.n:=by omega
            have HNM:Hid ((us1++ (x.atts.take x.n).map (·.nm)).map LT.ch=us1.map LT.ch++ x.atts.map (fun a=>a.nm.ch)):=by
              show _=_
              rw[List.take_of_length_le (by rw[HXN.out];exact Nat.le_refl _),List.map_append,List.map_map]
              rfl
            have HCALL:=Lib.hid (HI.out x HMEM.out wv hb2)
            generalize us1++ (x.atts.take x.n).map (·.nm)=us2 at *
            obtain⟨A5,c5,rfl,hown5,_⟩:=hr2
            have HG5:Hid (∀ g,(Value.slice A5 us2.length c5).ownBlock=some g->w.heap.size<=g):=fun g hg=>(hown5.lt g hg).1
            have HO5:=Lib.hid hown5
            have HL2:=Lib.hid hl2
            clear hb2 hown5 hl2
            go_wp2_with fail
            refine HCALL.out.mono ?_
            rintro e w6 ⟨A6,m6,c6,us6,rfl,h6,hb6⟩
            obtain⟨h6a,h6b,h6c⟩:=h6.out
            have HR6:=Lib.hid h6a
            have HC6:=Lib.hid h6c
            obtain⟨A7,c7,e7,ho7,hs7⟩:=h6a
            injection e7 with e71 e72 e73
            subst e71 e72 e73
            have hA6:A6=none->c6=0:=by
              obtain⟨_,_,ev,hA,_⟩:=zh ho7
              injection ev with f1 f2 f3
              subst f1 f3
              exact hA
            have HL6:Hid (Lies w6 w6.heap.size A6 (zu us6)):=Lies.own ho7
            have HS6:=Lib.hid hs7
            have HB6:=Lib.hid hb6
            have HBW6:Hid (Below w.heap.size w w6):=zf HB2.out (Nat.le_refl _) hb6
            have HO6:Hid (w6.ownsRow w.heap.size 24 2 (.slice A5 us2.length c5) us2.length (zu us2)):=zJ HO5.out hb6
            have hz6:us2.length+us6.length<=1048576:=by
              have h1:=HLE.out
              rw[<-HUL.out,HXN.out]at h1
              have h2:=HLT.out
              have h4:=HL2.out
              have h3:=congrArg List.length HC6.out
              rw[List.length_map]at h3
              omega
            have hz6w:w.heap.size<=w6.heap.size:=HBW6.out.size
            clear h6 h6b h6c ho7 hs7 hb6
            go_wp2_with (at_builtin;refine zbH _ rfl _ _ 42 rfl w.heap.size 24 i0 _ 2 40 Tryz.underlying42 hi hz0 hz1 hz2 rfl (by decide) (.slice A5 us2.length c5) us2.length _ rfl HO6.out w6.heap.size A6 us6.length c6 (zu us6) rfl hA6 (by rw[zeH]) HL6.out (zgC _) (by simp only[maxLen];omega) (by omega) hz6w ?_)
            intro v' w9 hown9 hgrow _
            obtain⟨A9,c9,rfl,_,_,_⟩:=zh hown9
            have HF:=Lib.hid (NmRow.more (vs:=us6) (m:=us6.length) HS.out (HR2.out.keep HB6.out) HS6.out rfl rfl hgrow hown9)
            have HG1:Hid (Below w.heap.size w w9):=HBW6.out.grown hgrow hz6w HG5.out
            have HEND:Hid ((us2++ us6).map LT.ch=lawN ((chL ts).take (k+1))):=by
              show _=_
              rw[List.map_append,HNM.out,HCT.out,HC6.out,HNX.out,List.append_assoc,List.append_assoc]
            clear hgrow hown9
            go_wp2_with fail
            go_roundw
            case rel=>exact⟨k+1,us2++ us6,by omega,by go_num,HF.out,HEND.out,HG1.out⟩
            case measure=>simp [intOf];omega
    . have hk1:¬ (k:Int) < (n:Int):=by omega
      have HTA:Hid (us.map LT.ch=lawN (chL ts)):=by
        have h1:=HUS.out
        rw[List.take_of_length_le (by rw[zv,HN.out];omega)]at h1
        exact h1
      clear hb
      go_wp2_with fail
      go_ret
      exact⟨A3,us.length,c3,rfl,⟨us,HROW.out,rfl,HTA.out⟩,HB.out⟩
def NmB(S:Nat->Prop)(g:Nat)(w2 W:World)(us:List LT):Prop:=
  ∃ A c,Whole W g 90 #[.slice A us.length c]/\W.ownsRow w2.heap.size 24 2 (.slice A us.length c) us.length (zu us)/\(∀ u∈us,u.inS S W)/\Moved (fun b=>b=g) w2 W
def NmK(g:Nat)(W W':World):Prop:=W.heap.size<=W'.heap.size/\∀ b t cs,Whole W b t cs->t≠24->b≠g->Whole W' b t cs
theorem NmK.refl(g:Nat)(W:World):NmK g W W:=⟨Nat.le_refl _,fun _ _ _ h _ _=>h⟩
theorem NmK.trans{g:Nat}{a b c:World}(h:NmK g a b)(k:NmK g b c):NmK g a c:=⟨Nat.le_trans h.1 k.1,fun x t cs h1 h2 h3=>k.2 x t cs (h.2 x t cs h1 h2 h3) h2 h3⟩
theorem NmK.of{g:Nat}{a b:World}(h:Below a.heap.size a b):NmK g a b:=⟨h.size,fun _ _ _ h1 _ _=>h1.below h h1.lt⟩
theorem NmB.below{S:Nat->Prop}{g:Nat}{w2 W W':World}{us:List LT}(h:NmB S g w2 W us)(hb:Below W.heap.size W W'):NmB S g w2 W' us:=by
  obtain⟨A,c,h1,h2,h3,h4⟩:=h
  exact⟨A,c,h1.below hb h1.lt,zJ h2 hb,fun u hu=>(h3 u hu).keep (Stays.of hb),h4.trans (Moved.of_below hb)⟩
theorem NmB.stays{S:Nat->Prop}{g:Nat}{w2 W:World}{us:List LT}(h:NmB S g w2 W us)(hS:∀ b,S b->b < w2.heap.size/\b≠g):Stays S w2 W:=by
  obtain⟨A,c,h1,h2,h3,h4⟩:=h
  exact h4.stays fun b _ hb e=>(hS b hb).2 e
theorem NmB.more{S:Nat->Prop}{g c c':Nat}{A A':Option Addr}{w2 W w3:World}{us:List LT}{u:LT}(hg:g < w2.heap.size)(hS:∀ b,S b->b < w2.heap.size/\b≠g)(h1:Whole W g 90 #[.slice A us.length c])(h2:W.ownsRow w2.heap.size 24 2 (.slice A us.length c) us.length (zu us))(h3:∀ u∈us,u.inS S W)(h4:Moved (fun b=>b=g) w2 W)
    (hu:u.inS S W) (hgr:W.grownBy w3 (Value.slice A us.length c).ownBlock) (ho:w3.ownsRow w2.heap.size 24 2 (.slice A' (us.length+1) c') (us.length+1) (zu us++ [.string u.s,.slice u.A u.n u.c])) :
    NmB S g w2 (w3.setCell ⟨g,0,none⟩ (.slice A' (us.length+1) c')) (us++ [u])/\NmK g W (w3.setCell ⟨g,0,none⟩ (.slice A' (us.length+1) c')):=by
  have hge:∀ b,(Value.slice A us.length c).ownBlock=some b->w2.heap.size<=b:=fun b hb=>(h2.lt b hb).1
  have hw:w2.heap.size<=W.heap.size:=h4.size
  have hy:Whole w3 g 90 #[.slice A us.length c]:=h1.grown hgr (fun e=>by have:=hge g e.symm;omega)
  have hst:Stays S W (w3.setCell ⟨g,0,none⟩ (.slice A' (us.length+1) c')):=by
    refine⟨by rw[World.size_setCell];exact hgr.size,fun b hb hl=>?_⟩
    have h5:=hS b hb
    rw[Below.heap_setCell _ _ _ _ h5.2]
    exact hgr.block b hl (fun e=>by have:=hge b e.symm;omega)
  have hlen:(us++ [u]).length=us.length+1:=by rw[List.length_append];rfl
  refine⟨⟨A',c',?_,?_,fun x hx=>?_,?_⟩,by rw[World.size_setCell];exact hgr.size,fun b t cs hb ht hbg=>?_⟩
  . rw[hlen];exact hy.put 0 _
  . rw[hlen,zdz]
    refine zS ho _ (fun e=>?_) _
    have:=(ho.lt g e).1
    omega
  . rcases List.mem_append.1 hx with hx | hx
    . exact(h3 x hx).keep hst
    . rw[List.mem_singleton.1 hx];exact hu.keep hst
  . exact(h4.grown hgr hge).setCell (p:=⟨g,0,none⟩) rfl _
  . refine(hb.grown hgr (fun e=>?_)).far _ hbg _
    obtain⟨cur,hk⟩:=zaq h2 e.symm
    have h6:W.heap[b]?=some (.cells cs t (0,0)):=hb
    rw[hk]at h6
    injection h6 with h6
    injection h6 with _ h6 _
    exact ht h6.symm
theorem zcn{P:Program}{ops:Array Oper}{Q:Exit->Act->World->Prop}{S:World->Prop}{Z:Nat->Bool}{id:Nat}{a:Act}{w:World}(hm:P.follows .mixedOrders=true)
    (h:zbI P .any ops Q S Z ops.size (Array.replicate ops.size false) a w.drew):(Code.region id ops true).wp P Q a w:=wp_region_any hm (zay _ _ _ _ h)
def zp8(S:Nat->Prop)(g:Nat)(w2 w:World)(us:List LT)(al:List AT)(n:Nat)(i:Value)(wr:World):Prop:=
  ∃ k:Nat,k<=n/\i=.int .i64 (k:Int)/\NmB S g w2 wr (us++ (al.take k).map (·.nm))/\NmK g w wr
theorem zhm{S:Nat->Prop}{g:Nat}{w2:World}(hg:g < w2.heap.size)(hS:∀ b,S b->b < w2.heap.size/\b≠g)(A:Option Addr)(n c:Nat)(al:List AT)(us:List LT)(w:World)(h:NmB S g w2 w us)(hl:LiesS S w2 A (zq al))(ha:∀ a∈al,a.inS S w2)(hn:al.length=n)(hz:us.length+n<=1048576) :
    Calls Tryz.prog 97 #[.pointer (some ⟨g,0,none⟩),.slice A n c] w fun e w'=>e=.returned (.tuple #[])/\NmB S g w2 w' (us++ al.map (·.nm))/\NmK g w w':=by
  obtain⟨i0,hi,hz0,hz1,hz2⟩:=info_parts zbS
  have H:=Lib.hid h
  have HS:=Lib.hid hS
  have HL:Hid (∀ W us,NmB S g w2 W us->LiesS S W A (zq al)):=fun W us h=>hl.keep (h.stays HS.out)
  have HA:Hid (∀ W us,NmB S g w2 W us->∀ a∈al,a.inS S W):=fun W us h a hx=>(ha a hx).keep (h.stays HS.out)
  have HN:=Lib.hid hn
  clear h hS hl ha hn
  go_enter Tryz.func97,Tryz.ntmps97
  go_wp2_with fail
  go_loopw [8] (zp8 S g w2 w us al n) (fun i _=>n - (intOf i).toNat)
  case atStart=>exact⟨0,Nat.zero_le _,rfl,by rw[List.take_zero,List.map_nil,List.append_nil];exact H.out,NmK.refl _ _⟩
  case round=>
    obtain⟨k,hk,rfl,hr,hkk⟩:=hrel
    have HR:=Lib.hid hr
    have HKK:=Lib.hid hkk
    clear hkk
    by_cases hlt:k < n
    . obtain⟨ad,a,rfl,hbA,d0,d1,d2,d3,HX⟩:=(HL.out wr _ hr).lies.att (k:=k) (by rw[HN.out];exact hlt)
      have hk0:(0:Int)<=(k:Int):=Int.natCast_nonneg _
      have hk1:(k:Int) < (n:Int):=by omega
      have HNM:Hid (us++ (al.take (k+1)).map (·.nm)=(us++ (al.take k).map (·.nm))++ [a.nm]):=by
        show _=_
        rw[zw HX.out,List.map_append,List.append_assoc]
        rfl
      have HAN:Hid (a∈al):=List.mem_of_getElem? HX.out
      have HLN:Hid ((us++ (al.take k).map (·.nm)).length+1<=1048576):=by
        show _<=_
        rw[List.length_append,List.length_map,List.length_take,HN.out]
        omega
      generalize us++ (al.take k).map (·.nm)=us1 at *
      clear hr
      go_upto_region 3 with fail
      generalize hw5:wr.alloc (.cells #[.string a.nm.s,.slice a.nm.A a.nm.n a.nm.c,.string a.vl.s,.slice a.vl.A a.vl.n a.vl.c] 93)=w5
      have y5:Whole w5 wr.heap.size 93 #[.string a.nm.s,.slice a.nm.A a.nm.n a.nm.c,.string a.vl.s,.slice a.vl.A a.vl.n a.vl.c]:=by rw[<-hw5];exact Whole.made _ _ _
      have hb5:Below wr.heap.size wr w5:=by rw[<-hw5];exact(Below.refl _ _).alloc (Nat.le_refl _) _
      have HR5:=Lib.hid (HR.out.below hb5)
      have HK5:Hid (NmK g w w5):=HKK.out.trans (NmK.of hb5)
      have HY5:=Lib.hid y5
      clear hw5 y5 hb5 d0 d1 d2 d3
      obtain⟨A1,c1,h1,h2,h3,h4⟩:=HR5.out
      have H1:=Lib.hid h1
      have H2:=Lib.hid h2
      have H3:=Lib.hid h3
      have H4:=Lib.hid h4
      have hln:=HLN.out
      have HSB:Hid (∀ V,Below w5.heap.size w5 V->V.cell? ⟨g,0,none⟩=some (.slice A1 us1.length c1)/\V.cell? ⟨wr.heap.size,0,none⟩=some (.string a.nm.s)/\V.cell? ⟨wr.heap.size,1,none⟩=some (.slice a.nm.A a.nm.n a.nm.c)):=fun V h=>by
        have z1:=H1.out.below h H1.out.lt
        have z5:=HY5.out.below h HY5.out.lt
        exact⟨z1.at_ 0,z5.at_ 0,z5.at_ 1⟩
      clear h1 h2 h3 h4
      have hbS:Below w5.heap.size w5 w5.drew:=Below.drew (Below.refl _ _)
      have hS:=HSB.out _ hbS
      refine zcn (S:=(fun V=>V.cell? ⟨g,0,none⟩=some (.slice A1 us1.length c1)/\V.cell? ⟨wr.heap.size,0,none⟩=some (.string a.nm.s)/\V.cell? ⟨wr.heap.size,1,none⟩=some (.slice a.nm.A a.nm.n a.nm.c))) (Z:=(fun i=>decide (8<=i))) (by kernel_rfl) ?_
      refine' zb (i:=0) ?i1 (by kernel_rfl) (by kernel_rfl) (by kernel_rfl) (by kernel_rfl) ?q1 ?y1 hS ?r1
      case i1=>simp only[zlD,zlE];rfl
      case q1=>exact fun _ _ _ h=>h
      case y1=>
        refine Or.inl ⟨by rfl,?_⟩
        intro wq hq
        try dsimp only at hq
        try obtain⟨hq0,hq1,hq2⟩:=hq
        go_simp
        try with_reducible rfl
      try simp only[Act.put,zlA,zlB,zlC]
      refine' zb (i:=1) ?i2 (by kernel_rfl) (by kernel_rfl) (by kernel_rfl) (by kernel_rfl) ?q2 ?y2 hS ?r2
      case i2=>simp only[zlD,zlF,zlE];rfl
      case q2=>exact fun _ _ _ h=>h
      case y2=>
        refine Or.inl ⟨by rfl,?_⟩
        intro wq hq
        try dsimp only at hq
        try obtain⟨hq0,hq1,hq2⟩:=hq
        go_simp
        try with_reducible rfl
      try simp only[Act.put,zlA,zlB,zlC]
      refine' zb (i:=2) ?i3 (by kernel_rfl) (by kernel_rfl) (by kernel_rfl) (by kernel_rfl) ?q3 ?y3 hS ?r3
      case i3=>simp only[zlD,zlF,zlE];rfl
      case q3=>exact fun _ _ _ h=>h
      case y3=>
        refine Or.inl ⟨by rfl,?_⟩
        intro wq hq
        try dsimp only at hq
        try obtain⟨hq0,hq1,hq2⟩:=hq
        go_simp
        try with_reducible rfl
      try simp only[Act.put,zlA,zlB,zlC]
      refine' zb (i:=3) ?i4 (by kernel_rfl) (by kernel_rfl) (by kernel_rfl) (by kernel_rfl) ?q4 ?y4 hS ?r4
      case i4=>simp only[zlD,zlF,zlE];rfl
      case q4=>exact fun _ _ _ h=>h
      case y4=>
        refine Or.inl ⟨by rfl,?_⟩
        intro wq hq
        try dsimp only at hq
        try obtain⟨hq0,hq1,hq2⟩:=hq
        go_simp
        try with_reducible rfl
      try simp only[Act.put,zlA,zlB,zlC]
      refine' zb (i:=4) ?i5 (by kernel_rfl) (by kernel_rfl) (by kernel_rfl) (by kernel_rfl) ?q5 ?y5 hS ?r5
      case i5=>simp only[zlD,zlF,zlE];rfl
      case q5=>exact fun _ _ _ h=>h
      case y5=>
        refine Or.inl ⟨by rfl,?_⟩
        intro wq hq
        try dsimp only at hq
        try obtain⟨hq0,hq1,hq2⟩:=hq
        go_simp
        try with_reducible rfl
      try simp only[Act.put,zlA,zlB,zlC]
      refine' zb (i:=5) ?i6 (by kernel_rfl) (by kernel_rfl) (by kernel_rfl) (by kernel_rfl) ?q6 ?y6 hS ?r6
      case i6=>simp only[zlD,zlF,zlE];rfl
      case q6=>exact fun _ _ _ h=>h
      case y6=>
        refine Or.inl ⟨by rfl,?_⟩
        intro wq hq
        try dsimp only at hq
        try obtain⟨hq0,hq1,hq2⟩:=hq
        go_simp
        try with_reducible rfl
      try simp only[Act.put,zlA,zlB,zlC]
      refine za (rs:=[6]) (by kernel_rfl) (by simp) ?_
      refine' ReadyL.cons ?o7 (fun K hK=>?s7) ReadyL.nil
      case o7=>simp only[zlD,zlF,zlE];rfl
      go_simp
      have hba:=hbS.alloc (Nat.le_refl _) (.cells #[.string a.nm.s,.slice a.nm.A a.nm.n a.nm.c] 24)
      have HBA:=Lib.hid hba
      refine hK.out _ _ (.inr (HSB.out _ hba)) ?_
      have hS:=HSB.out _ hba
      clear hK K hba
      try simp only[Act.put,zlA,zlB,zlC]
      refine za (rs:=[7]) (by kernel_rfl) (by simp) ?_
      refine' ReadyL.cons ?o8 (fun K hK=>?s8) ReadyL.nil
      case o8=>simp only[zlD,zlF,zlE];rfl
      refine zA _ (by rfl) (.tmp 15) (.tmp 18) 90 (by rfl) w2.heap.size 24 i0 _ 2 40 Tryz.underlying90 hi hz0 hz1 hz2 rfl (by omega) (.slice A1 us1.length c1) us1.length _ (by rfl) (zJ H2.out HBA.out) _ (some ⟨w5.heap.size,0,none⟩) 1 1 [.string a.nm.s,.slice a.nm.A a.nm.n a.nm.c] (by rfl) (by simp) (by rfl) (za0 (Whole.made w5.drew _ _) rfl) (by simp [Value.oneCell']) (by simp only[maxLen];omega) (by omega) (Nat.le_trans H4.out.size HBA.out.size) ?_
      intro v3 w3 hown3 hgr3 _
      obtain⟨A3,c3,rfl,_,_,_⟩:=zh hown3
      have z1:=H1.out.below HBA.out H1.out.lt
      have HF:=Lib.hid (NmB.more hg HS.out z1 (zJ H2.out HBA.out) (fun u hu=>(H3.out u hu).keep (Stays.of HBA.out)) (H4.out.trans (Moved.of_below HBA.out)) ((HA.out w5 _ HR5.out a HAN.out).1.keep (Stays.of HBA.out)) hgr3 hown3)
      have z3:Whole w3 g 90 #[.slice A1 us1.length c1]:=z1.grown hgr3 (fun e=>by have:=(H2.out.lt g e.symm).1;omega)
      have z5:Whole w3 wr.heap.size 93 #[.string a.nm.s,.slice a.nm.A a.nm.n a.nm.c,.string a.vl.s,.slice a.vl.A a.vl.n a.vl.c]:=(HY5.out.below HBA.out HY5.out.lt).grown hgr3 (fun e=>by
        obtain⟨cur,hk⟩:=zaq H2.out e.symm
        have h6:w5.heap[wr.heap.size]?=some (.cells _ 93 (0,0)):=HY5.out
        rw[hk]at h6
        injection h6 with h6
        injection h6 with _ h6 _
        exact absurd h6 (by decide))
      have k0:=z3.at_ 0
      have kf:=z3.free 0
      refine hK.out _ _ (.inr ⟨z3.at_ 0,z5.at_ 0,z5.at_ 1⟩) ?_
      clear hK K hown3 hgr3 z1 z3 z5 hS
      try simp only[Act.put,zlA,zlB,zlC]
      refine za (rs:=[8]) (by kernel_rfl) (by simp) ?_
      refine' ReadyL.cons ?o9 (fun K hK=>?s9) ReadyL.nil
      case o9=>simp only[zlD,zlF,zlE];rfl
      go_simp
      refine hK.out _ _ (.inl (by decide)) ?_
      clear hK K
      try simp only[Act.put,zlA,zlB,zlC]
      refine za (rs:=[9]) (by kernel_rfl) (by simp) ?_
      refine' ReadyL.cons ?o10 (fun K hK=>?s10) ReadyL.nil
      case o10=>simp only[zlD,zlF,zlE];rfl
      go_simp
      refine hK.out _ _ (.inl (by decide)) ?_
      clear hK K
      try simp only[Act.put,zlA,zlB,zlC]
      refine zg (by kernel_rfl) ?_ _
      go_wp2_with fail
      go_roundw
      case rel=>exact⟨k+1,by omega,by go_num,by rw[HNM.out];exact HF.out.1,(HK5.out.trans (NmK.of HBA.out)).trans HF.out.2⟩
      case measure=>simp [intOf];omega
    . have hk1:¬ (k:Int) < (n:Int):=by omega
      have HTA:Hid (us++ (al.take k).map (·.nm)=us++ al.map (·.nm)):=by
        show _=_
        rw[List.take_of_length_le (by rw[HN.out];omega)]
      clear hr
      go_wp2_with fail
      go_end0
      exact⟨rfl,by rw[<-HTA.out];exact HR.out,HKK.out⟩
theorem zp9{L:List PT}{k:Nat}{t:PT}(h:L[k]?=some t):bkL (L.take k)+t.bk<=bkL L:=by
  have h1:=zfD L (k+1)
  rw[zw h,zN,zaT]at h1
  exact h1
theorem NmB.len{S:Nat->Prop}{g:Nat}{w2 W:World}{us:List LT}(h:NmB S g w2 W us):w2.heap.size<=W.heap.size:=by
  obtain⟨_,_,_,_,_,h4⟩:=h
  exact h4.size
def zqa(S:Nat->Prop)(g:Nat)(w2 w:World)(us:List LT)(ts:List TT)(n:Nat)(i:Value)(wr:World):Prop:=
  ∃ (k:Nat) (vs:List LT),k<=n/\i=.int .i64 (k:Int)/\NmB S g w2 wr (us++ vs)/\vs.map LT.ch=proN ((chL ts).take k)/\NmK g w wr
theorem zhn{S:Nat->Prop}{g:Nat}{w2:World}(hg:g < w2.heap.size)(hS:∀ b,S b->b < w2.heap.size/\b≠g):∀ (Q:List PT) (A:Option Addr) (n c:Nat) (ts:List TT) (us:List LT) (w:World),chL ts=Q->NmB S g w2 w us->LiesS S w2 A (ze ts)->AllS S w2 ts->ts.length=n->us.length+bkL Q<=1048576->
    Calls Tryz.prog 56 #[.pointer (some ⟨g,0,none⟩),.slice A n c] w fun e w'=>e=.returned (.tuple #[])/\∃ vs:List LT,Hid (NmB S g w2 w' (us++ vs)/\vs.map LT.ch=proN Q)/\NmK g w w':=by
  apply PT.ind
  intro Q IH A n c ts us w hq h hl ha hn hz
  subst hq
  obtain⟨i0,hi,hz0,hz1,hz2⟩:=info_parts zbS
  have H:=Lib.hid h
  have HS:=Lib.hid hS
  have HG:=Lib.hid hg
  have HL:Hid (∀ W us,NmB S g w2 W us->LiesS S W A (ze ts)):=fun W us h=>hl.keep (h.stays HS.out)
  have HA:Hid (∀ W us,NmB S g w2 W us->AllS S W ts):=fun W us h=>ha.keep (h.stays HS.out)
  have HA2:=Lib.hid ha
  have HN:=Lib.hid hn
  have HZ:=Lib.hid hz
  have hn2:n<=1048576:=by
    have h1:=zau (chL ts)
    rw[zv,hn]at h1
    omega
  have HI:Hid (∀ x∈ts,∀ us W,NmB S g w2 W us->us.length+bkL (chL x.kids)<=1048576->Calls Tryz.prog 56 #[.pointer (some ⟨g,0,none⟩),.slice x.K x.kn x.kc] W fun e w'=>e=.returned (.tuple #[])/\∃ vs:List LT,Hid (NmB S g w2 w' (us++ vs)/\vs.map LT.ch=proN (chL x.kids))/\NmK g W w'):=fun x hx us W hb hz=>by
    have hm:x.ch∈chL ts:=by rw[zeb];exact List.mem_map.2 ⟨x,hx,rfl⟩
    have hxs:=ha.get hx
    have h1:=IH x.ch hm x.K x.kn x.kc x.kids us W (TT.ch_kids x).symm hb hxs.kid (ha.kids hx) hxs.kn (by rw[TT.ch_kids];exact hz)
    rw[TT.ch_kids]at h1
    exact h1
  have HTL:Hid (∀ k,us.length+(proN ((chL ts).take k)).length<=1048576):=fun k=>by
    have h1:=ziD ((chL ts).take k)
    have h2:=zfD (chL ts) k
    omega
  clear h hS hg hl ha hn hz IH
  go_enter Tryz.func56,Tryz.ntmps56
  go_wp2_with fail
  go_loopw [8] (zqa S g w2 w us ts n) (fun i _=>n - (intOf i).toNat)
  case atStart=>exact⟨0,[],Nat.zero_le _,rfl,by rw[List.append_nil];exact H.out,by rw[List.take_zero,proN];rfl,NmK.refl _ _⟩
  case round=>
    obtain⟨k,vs,hk,rfl,hr,hvs,hkk⟩:=hrel
    have HR:=Lib.hid hr
    have HVS:=Lib.hid hvs
    have HKK:=Lib.hid hkk
    clear hkk hvs
    by_cases hlt:k < n
    . obtain⟨ad,x,rfl,hbA,d0,d1,d2,d3,d4,d5,HX⟩:=(HL.out wr _ hr).lies.tree (k:=k) (by rw[HN.out];exact hlt)
      have hk0:(0:Int)<=(k:Int):=Int.natCast_nonneg _
      have hk1:(k:Int) < (n:Int):=by omega
      have HMEM:Hid (x∈ts):=List.mem_of_getElem? HX.out
      have HNX:Hid (proN ((chL ts).take (k+1))=proN ((chL ts).take k)++ (if x.tag.ch=[] then [] else x.tag.ch::(x.atts.map (fun a=>a.nm.ch)++ proN (chL x.kids)))):=by
        show _=_
        rw[zkC (ziB HX.out),PT.proN_eq,TT.ch_tag,TT.ch_kids]
        rw[show x.ch.attrs=x.atts.map AT.ch by rw[TT.ch_eq],List.map_map]
        rfl
      clear hr
      go_upto_region 3 with fail
      generalize hw5:wr.alloc (.cells #[.string x.tag.s,.slice x.tag.A x.tag.n x.tag.c,.slice x.A x.n x.c,.slice x.K x.kn x.kc,.string x.text.s,.slice x.text.A x.text.n x.text.c] 48)=w5
      have y5:Whole w5 wr.heap.size 48 #[.string x.tag.s,.slice x.tag.A x.tag.n x.tag.c,.slice x.A x.n x.c,.slice x.K x.kn x.kc,.string x.text.s,.slice x.text.A x.text.n x.text.c]:=by rw[<-hw5];exact Whole.made _ _ _
      have hb5:Below wr.heap.size wr w5:=by rw[<-hw5];exact(Below.refl _ _).alloc (Nat.le_refl _) _
      have HR5:=Lib.hid (HR.out.below hb5)
      have HK5:Hid (NmK g w w5):=HKK.out.trans (NmK.of hb5)
      have HY5:=Lib.hid y5
      have p0:=y5.at_ 0
      have HGR:Hid (wr.heap.size≠g):=fun e=>by have:=HR.out.len;have:=HG.out;omega
      clear hw5 y5 hb5 d0 d1 d2 d3 d4 d5
      by_cases ht:x.tag.ch=[]
      . have hts:x.tag.s.toList=[]:=(LT.s_nil _).2 ht
        have hx:(x.tag.s.toList == [])=true:=by rw[hts];rfl
        have hx2:x.tag.s.toList.isEmpty=true:=by rw[hts];rfl
        have HEND:Hid (vs.map LT.ch=proN ((chL ts).take (k+1))):=by show _=_;rw[HNX.out,if_pos ht,List.append_nil];exact HVS.out
        clear hts ht
        go_wp2_with fail
        go_roundw
        case rel=>exact⟨k+1,vs,by omega,by go_num,HR5.out,HEND.out,HK5.out⟩
        case measure=>simp [intOf];omega
      . have hes:¬ x.tag.s.toList=[]:=fun h=>ht ((LT.s_nil _).1 h)
        have hx:(x.tag.s.toList == [])=false:=by rw[beq_eq_false_iff_ne];exact hes
        have hx2:x.tag.s.toList.isEmpty=false:=by simpa using hes
        have HNX2:Hid (proN ((chL ts).take (k+1))=proN ((chL ts).take k)++ (x.tag.ch::(x.atts.map (fun a=>a.nm.ch)++ proN (chL x.kids)))):=by
          show _=_
          rw[HNX.out,if_neg ht]
        have HLE:Hid ((us++ vs).length+1+x.n+bkL (chL x.kids)<=1048576):=by
          show _<=_
          have h1:=congrArg List.length HVS.out
          rw[List.length_map]at h1
          have h2:=HZ.out
          have h3:=ziD ((chL ts).take k)
          have h4:=zp9 (ziB HX.out)
          rw[List.length_append]
          have h5:x.ch.bk=x.ch.tag.length+x.ch.attrs.length+x.ch.text.length+1+bkL x.ch.kids:=PT.bk_eq _
          rw[TT.ch_kids,show x.ch.attrs=x.atts.map AT.ch by rw[TT.ch_eq],List.length_map,(HA2.out.get HMEM.out).an]at h5
          omega
        clear hes ht
        obtain⟨A1,c1,h1,h2,h3,h4⟩:=HR5.out
        have H1:=Lib.hid h1
        have H2:=Lib.hid h2
        have H3:=Lib.hid h3
        have H4:=Lib.hid h4
        generalize hus1:us++ vs=us1 at *
        have hln:us1.length+1<=1048576:=by have:=HLE.out;omega
        have HUS1:=Lib.hid hus1
        have HSB:Hid (∀ V,Below w5.heap.size w5 V->V.cell? ⟨g,0,none⟩=some (.slice A1 us1.length c1)/\V.cell? ⟨wr.heap.size,0,none⟩=some (.string x.tag.s)/\V.cell? ⟨wr.heap.size,1,none⟩=some (.slice x.tag.A x.tag.n x.tag.c)):=fun V h=>by
          have z1:=H1.out.below h H1.out.lt
          have z5:=HY5.out.below h HY5.out.lt
          exact⟨z1.at_ 0,z5.at_ 0,z5.at_ 1⟩
        clear h1 h2 h3 h4 hus1
        go_upto_region 4 with fail
        go_cut [] (fun wx=>NmB S g w2 wx (us1++ [x.tag])/\NmK g w5 wx)
        case first=>
          have hbS:Below w5.heap.size w5 w5.drew:=Below.drew (Below.refl _ _)
          have hS:=HSB.out _ hbS
          refine zcn (S:=(fun V=>V.cell? ⟨g,0,none⟩=some (.slice A1 us1.length c1)/\V.cell? ⟨wr.heap.size,0,none⟩=some (.string x.tag.s)/\V.cell? ⟨wr.heap.size,1,none⟩=some (.slice x.tag.A x.tag.n x.tag.c))) (Z:=(fun i=>decide (8<=i))) (by kernel_rfl) ?_
          refine' zb (i:=0) ?i11 (by kernel_rfl) (by kernel_rfl) (by kernel_rfl) (by kernel_rfl) ?q11 ?y11 hS ?r11
          case i11=>simp only[zlD,zlE];rfl
          case q11=>exact fun _ _ _ h=>h
          case y11=>
            refine Or.inl ⟨by rfl,?_⟩
            intro wq hq
            try dsimp only at hq
            try obtain⟨hq0,hq1,hq2⟩:=hq
            go_simp
            try with_reducible rfl
          try simp only[Act.put,zlA,zlB,zlC]
          refine' zb (i:=1) ?i12 (by kernel_rfl) (by kernel_rfl) (by kernel_rfl) (by kernel_rfl) ?q12 ?y12 hS ?r12
          case i12=>simp only[zlD,zlF,zlE];rfl
          case q12=>exact fun _ _ _ h=>h
          case y12=>
            refine Or.inl ⟨by rfl,?_⟩
            intro wq hq
            try dsimp only at hq
            try obtain⟨hq0,hq1,hq2⟩:=hq
            go_simp
            try with_reducible rfl
          try simp only[Act.put,zlA,zlB,zlC]
          refine' zb (i:=2) ?i13 (by kernel_rfl) (by kernel_rfl) (by kernel_rfl) (by kernel_rfl) ?q13 ?y13 hS ?r13
          case i13=>simp only[zlD,zlF,zlE];rfl
          case q13=>exact fun _ _ _ h=>h
          case y13=>
            refine Or.inl ⟨by rfl,?_⟩
            intro wq hq
            try dsimp only at hq
            try obtain⟨hq0,hq1,hq2⟩:=hq
            go_simp
            try with_reducible rfl
          try simp only[Act.put,zlA,zlB,zlC]
          refine' zb (i:=3) ?i14 (by kernel_rfl) (by kernel_rfl) (by kernel_rfl) (by kernel_rfl) ?q14 ?y14 hS ?r14
          case i14=>simp only[zlD,zlF,zlE];rfl
          case q14=>exact fun _ _ _ h=>h
          case y14=>
            refine Or.inl ⟨by rfl,?_⟩
            intro wq hq
            try dsimp only at hq
            try obtain⟨hq0,hq1,hq2⟩:=hq
            go_simp
            try with_reducible rfl
          try simp only[Act.put,zlA,zlB,zlC]
          refine' zb (i:=4) ?i15 (by kernel_rfl) (by kernel_rfl) (by kernel_rfl) (by kernel_rfl) ?q15 ?y15 hS ?r15
          case i15=>simp only[zlD,zlF,zlE];rfl
          case q15=>exact fun _ _ _ h=>h
          case y15=>
            refine Or.inl ⟨by rfl,?_⟩
            intro wq hq
            try dsimp only at hq
            try obtain⟨hq0,hq1,hq2⟩:=hq
            go_simp
            try with_reducible rfl
          try simp only[Act.put,zlA,zlB,zlC]
          refine' zb (i:=5) ?i16 (by kernel_rfl) (by kernel_rfl) (by kernel_rfl) (by kernel_rfl) ?q16 ?y16 hS ?r16
          case i16=>simp only[zlD,zlF,zlE];rfl
          case q16=>exact fun _ _ _ h=>h
          case y16=>
            refine Or.inl ⟨by rfl,?_⟩
            intro wq hq
            try dsimp only at hq
            try obtain⟨hq0,hq1,hq2⟩:=hq
            go_simp
            try with_reducible rfl
          try simp only[Act.put,zlA,zlB,zlC]
          refine za (rs:=[6]) (by kernel_rfl) (by simp) ?_
          refine' ReadyL.cons ?o17 (fun K hK=>?s17) ReadyL.nil
          case o17=>simp only[zlD,zlF,zlE];rfl
          go_simp
          have hba:=hbS.alloc (Nat.le_refl _) (.cells #[.string x.tag.s,.slice x.tag.A x.tag.n x.tag.c] 24)
          have HBA:=Lib.hid hba
          refine hK.out _ _ (.inr (HSB.out _ hba)) ?_
          have hS:=HSB.out _ hba
          clear hK K hba
          try simp only[Act.put,zlA,zlB,zlC]
          refine za (rs:=[7]) (by kernel_rfl) (by simp) ?_
          refine' ReadyL.cons ?o18 (fun K hK=>?s18) ReadyL.nil
          case o18=>simp only[zlD,zlF,zlE];rfl
          refine zA _ (by rfl) (.tmp 19) (.tmp 22) 90 (by rfl) w2.heap.size 24 i0 _ 2 40 Tryz.underlying90 hi hz0 hz1 hz2 rfl (by omega) (.slice A1 us1.length c1) us1.length _ (by rfl) (zJ H2.out HBA.out) _ (some ⟨w5.heap.size,0,none⟩) 1 1 [.string x.tag.s,.slice x.tag.A x.tag.n x.tag.c] (by rfl) (by simp) (by rfl) (za0 (Whole.made w5.drew _ _) rfl) (by simp [Value.oneCell']) (by simp only[maxLen];omega) (by omega) (Nat.le_trans H4.out.size HBA.out.size) ?_
          intro v3 w3 hown3 hgr3 _
          obtain⟨A3,c3,rfl,_,_,_⟩:=zh hown3
          have z1:=H1.out.below HBA.out H1.out.lt
          have HF:=Lib.hid (NmB.more HG.out HS.out z1 (zJ H2.out HBA.out) (fun u hu=>(H3.out u hu).keep (Stays.of HBA.out)) (H4.out.trans (Moved.of_below HBA.out)) (((HA.out w5 _ HR5.out).get HMEM.out).tag.keep (Stays.of HBA.out)) hgr3 hown3)
          have z3:Whole w3 g 90 #[.slice A1 us1.length c1]:=z1.grown hgr3 (fun e=>by have:=(H2.out.lt g e.symm).1;have:=HG.out;omega)
          have z5:Whole w3 wr.heap.size 48 #[.string x.tag.s,.slice x.tag.A x.tag.n x.tag.c,.slice x.A x.n x.c,.slice x.K x.kn x.kc,.string x.text.s,.slice x.text.A x.text.n x.text.c]:=(HY5.out.below HBA.out HY5.out.lt).grown hgr3 (fun e=>by
            obtain⟨cur,hk⟩:=zaq H2.out e.symm
            have h6:w5.heap[wr.heap.size]?=some (.cells _ 48 (0,0)):=HY5.out
            rw[hk]at h6
            injection h6 with h6
            injection h6 with _ h6 _
            exact absurd h6 (by decide))
          have k0:=z3.at_ 0
          have kf:=z3.free 0
          refine hK.out _ _ (.inr ⟨z3.at_ 0,z5.at_ 0,z5.at_ 1⟩) ?_
          clear hK K hown3 hgr3 z1 z3 z5 hS
          try simp only[Act.put,zlA,zlB,zlC]
          refine za (rs:=[8]) (by kernel_rfl) (by simp) ?_
          refine' ReadyL.cons ?o19 (fun K hK=>?s19) ReadyL.nil
          case o19=>simp only[zlD,zlF,zlE];rfl
          go_simp
          refine hK.out _ _ (.inl (by decide)) ?_
          clear hK K
          try simp only[Act.put,zlA,zlB,zlC]
          refine za (rs:=[9]) (by kernel_rfl) (by simp) ?_
          refine' ReadyL.cons ?o20 (fun K hK=>?s20) ReadyL.nil
          case o20=>simp only[zlD,zlF,zlE];rfl
          go_simp
          refine hK.out _ _ (.inl (by decide)) ?_
          clear hK K
          try simp only[Act.put,zlA,zlB,zlC]
          refine zg (by kernel_rfl) ?_ _
          go_wp2_with fail
          go_meet
          exact⟨HF.out.1,(NmK.of HBA.out).trans HF.out.2⟩
        case rest=>
          obtain⟨hr6,hk6⟩:=hcut
          obtain⟨w6,rfl⟩:∃ w6:World,w6=wc:=⟨_,rfl⟩
          have HR6:=Lib.hid hr6
          have HK6:=Lib.hid hk6
          have y6:=hk6.2 _ _ _ HY5.out (by decide) HGR.out
          have HY6:=Lib.hid y6
          have q2:=y6.at_ 2
          have q3:=y6.at_ 3
          have HXS:=Lib.hid (HA2.out.get HMEM.out)
          have HCA:Hid (Calls Tryz.prog 97 #[.pointer (some ⟨g,0,none⟩),.slice x.A x.n x.c] w6 fun e w'=>e=.returned (.tuple #[])/\NmB S g w2 w' ((us1++ [x.tag])++ x.atts.map (·.nm))/\NmK g w6 w'):=
            zhm HG.out HS.out x.A x.n x.c x.atts (us1++ [x.tag]) w6 hr6 HXS.out.att HXS.out.atts HXS.out.an (by rw[List.length_append,List.length_singleton];have:=HLE.out;omega)
          clear hr6 hk6 y6 p0
          go_wp2_with fail
          refine HCA.out.mono ?_
          rintro e w7 ⟨rfl,hr7,hk7⟩
          have HR7:=Lib.hid hr7
          have HK7:=Lib.hid hk7
          have y7:=hk7.2 _ _ _ HY6.out (by decide) HGR.out
          have g3:=y7.at_ 3
          have HCT:=Lib.hid (HI.out x HMEM.out _ w7 hr7 (by rw[List.length_append,List.length_append,List.length_singleton,List.length_map,HXS.out.an];have:=HLE.out;omega))
          clear hr7 hk7 y7 q2 q3 HCA
          go_wp2_with fail
          refine HCT.out.mono ?_
          rintro e w8 ⟨rfl,ws,h8,hk8⟩
          have HR8:=Lib.hid h8.out.1
          have HW8:=Lib.hid h8.out.2
          have HK8:=Lib.hid hk8
          have HEND:Hid ((vs++ (x.tag::(x.atts.map (·.nm)++ ws))).map LT.ch=proN ((chL ts).take (k+1))):=by
            show _=_
            rw[HNX2.out,List.map_append,HVS.out,List.map_cons,List.map_append,List.map_map,HW8.out]
            rfl
          have HREL:Hid (us++ (vs++ (x.tag::(x.atts.map (·.nm)++ ws)))=((us1++ [x.tag])++ x.atts.map (·.nm))++ ws):=by
            show _=_
            rw[<-HUS1.out]
            simp
          clear h8 hk8 g3 HCT
          go_wp2_with fail
          go_roundw
          case rel=>exact⟨k+1,_,by omega,by go_num,by rw[HREL.out];exact HR8.out,HEND.out,(((HK5.out.trans HK6.out).trans HK7.out).trans HK8.out)⟩
          case measure=>simp [intOf];omega
    . have hk1:¬ (k:Int) < (n:Int):=by omega
      have HTA:Hid (vs.map LT.ch=proN (chL ts)):=by
        have h1:=HVS.out
        rw[List.take_of_length_le (by rw[zv,HN.out];omega)]at h1
        exact h1
      clear hr
      go_wp2_with fail
      go_end0
      exact⟨rfl,⟨vs,HR.out,HTA.out⟩,HKK.out⟩
theorem zms(A:Option Addr)(n c:Nat)(ts:List TT)(w:World)(h:TreesIn0 w A n ts) :
    Calls Tryz.prog 20 #[.slice A n c] w fun e w'=>∃ (A':Option Addr) (m c':Nat) (us:List LT),e=.returned (.slice A' m c')/\Hid (Lies w' w'.heap.size A' (zu us)/\us.length=m/\(∀ u∈us,u.ok w' w'.heap.size)/\us.map LT.ch=proN (zp (chL ts)))/\Below w.heap.size w w':=by
  have H:=Lib.hid h
  have HBK:Hid (bkL (zp (chL ts))<=1048576):=Nat.le_trans (zbY _) h.bulk
  clear h
  go_enter Tryz.func20,Tryz.ntmps20
  go_upto_region 2 with fail
  generalize hw1:w.alloc (.cells #[.slice none 0 0] 90)=w1
  have y1:Whole w1 w.heap.size 90 #[.slice none 0 0]:=by rw[<-hw1];exact Whole.made _ _ _
  have hb1:Below w.heap.size w w1:=by rw[<-hw1];exact(Below.refl _ _).alloc (Nat.le_refl _) _
  have HMG:=Lib.hid (zc0 A n c ts w1 (H.out.next hb1))
  have HY1:=Lib.hid y1
  have HB1:=Lib.hid hb1
  clear hw1 y1 hb1
  go_wp2_with fail
  refine HMG.out.mono ?_
  rintro e w2 ⟨A2,c2,ms,rfl,ho2,hm2,⟨hq2,_⟩,hb2⟩
  have HB2:=Lib.hid hb2
  have y2:=HY1.out.below hb2 HY1.out.lt
  have hgl:w.heap.size < w1.heap.size:=HY1.out.lt
  have hg:w.heap.size < w2.heap.size:=y2.lt
  have HS:Hid (∀ b,(w1.heap.size<=b/\b < w2.heap.size)->b < w2.heap.size/\b≠w.heap.size):=fun b h=>⟨h.2,by omega⟩
  have HAT:Hid (Calls Tryz.prog 56 #[.pointer (some ⟨w.heap.size,0,none⟩),.slice A2 ms.length c2] w2 fun e w'=>e=.returned (.tuple #[])/\∃ vs:List LT,Hid (NmB (fun b=>w1.heap.size<=b/\b < w2.heap.size) w.heap.size w2 w' ([]++ vs)/\vs.map LT.ch=proN (zp (chL ts)))/\NmK w.heap.size w2 w'):=
    zhn hg HS.out (zp (chL ts)) A2 ms.length c2 ms [] w2 hq2 ⟨none,0,y2,World.ownsRow_nil _ _ _ _,(fun u h=>by cases h),Moved.refl _ _⟩
      ((zbZ ho2).mono fun b hb hl=>⟨hb,hl⟩) (hm2.mono fun b hb hl=>⟨hb,hl⟩) rfl (by have:=HBK.out;rw[List.length_nil];omega)
  clear ho2 hm2 hq2 hb2 y2 HMG
  go_wp2_with fail
  refine HAT.out.mono ?_
  rintro e w3 ⟨rfl,vs,h3,_⟩
  rw[List.nil_append]at h3
  obtain⟨⟨A3,c3,hW,ho,hi,hm⟩,hch⟩:=h3.out
  have k0:=hW.at_ 0
  have HL3:Hid (Lies w3 w3.heap.size A3 (zu vs)):=Lies.own ho
  have HU3:Hid (∀ u∈vs,u.ok w3 w3.heap.size):=fun u hu=>(hi u hu).ok
  have HC3:=Lib.hid hch
  have HBZ:Hid (Below w.heap.size w w3):=(zf HB1.out (Nat.le_refl _) HB2.out).trans (hm.below (by omega) fun b hb e=>by omega)
  clear hW ho hi hm hch h3 HAT
  go_wp2_with fail
  go_ret
  have HEND:Hid (Lies w3 w3.heap.size A3 (zu vs)/\vs.length=vs.length/\(∀ u∈vs,u.ok w3 w3.heap.size)/\vs.map LT.ch=proN (zp (chL ts))):=⟨HL3.out,rfl,HU3.out,HC3.out⟩
  exact⟨A3,vs.length,c3,vs,rfl,HEND,HBZ.out⟩
theorem zmt(A:Option Addr)(n c:Nat)(us:List LT)(B:Option Addr)(d:Nat)(vs:List LT)(w:World)(hl:Lies w w.heap.size A (zu us))(hl':Lies w w.heap.size B (zu vs))(hn:us.length=n)(hq:us.map LT.ch=vs.map LT.ch)(hu:∀ u∈us,u.ok w w.heap.size)(hv:∀ u∈vs,u.ok w w.heap.size)(hn2:n<=4294967296) :
    Calls Tryz.prog 19 #[.slice A n c,.slice B n d] w fun e w'=>e=.returned (.bool true)/\Below w.heap.size w w':=by
  have HN:=Lib.hid hn
  have HM:Hid (vs.length=n):=by
    show _=_
    have h1:=congrArg List.length hq
    rw[List.length_map,List.length_map]at h1
    omega
  have HL:=Lib.hid hl
  have HL':=Lib.hid hl'
  have HU:=Lib.hid hu
  have HV:=Lib.hid hv
  have HQ:=Lib.hid hq
  clear hn hl hl' hu hv hq
  go_enter Tryz.func19,Tryz.ntmps19
  go_wp2_with fail
  go_loopw [5] (UpTo n w) (fun i _=>n - (intOf i).toNat)
  case atStart=>exact⟨0,Nat.zero_le _,rfl,Below.refl _ _⟩
  case round=>
    obtain⟨k,hk,rfl,hb⟩:=hrel
    by_cases hlt:k < n
    . obtain⟨ad,x,rfl,hbA,d0,d1,HR⟩:=(HL.out.below hb).lt (k:=k) (by rw[HN.out];exact hlt)
      obtain⟨ad',y,rfl,hbB,e0,e1,HR'⟩:=(HL'.out.below hb).lt (k:=k) (by rw[HM.out];exact hlt)
      have hk0:(0:Int)<=(k:Int):=Int.natCast_nonneg _
      have hk1:(k:Int) < (n:Int):=by omega
      have HXY:Hid (x.ch=y.ch):=by
        have h1:(us.map LT.ch)[k]?=some x.ch:=by rw[List.getElem?_map,HR.out];rfl
        rw[HQ.out,List.getElem?_map,HR'.out]at h1
        injection h1 with h1
        exact h1.symm
      have HC:Hid (∀ W,Below wr.heap.size wr W->Calls Tryz.prog 46 #[.agg #[.string x.s,.slice x.A x.n x.c],.agg #[.string y.s,.slice y.A y.n y.c]] W fun e w'=>e=.returned (.bool true)/\Below W.heap.size W w'):=fun W h=>by
        have hbb:=zf hb (Nat.le_refl _) h
        have h1:=zgF x y W ((HU.out x (List.mem_of_getElem? HR.out)).next hbb (Nat.le_refl _)) ((HV.out y (List.mem_of_getElem? HR'.out)).next hbb (Nat.le_refl _))
        rw[decide_eq_true HXY.out]at h1
        exact h1
      have HKS:Hid (∀ W,Below wr.heap.size wr W->W.cell? (ad.add (k * 2))=some (.string x.s)/\W.cell? ⟨(ad.add (k * 2)).block,(ad.add (k * 2)).off+1,none⟩=some (.slice x.A x.n x.c)/\W.cell? (ad'.add (k * 2))=some (.string y.s)/\W.cell? ⟨(ad'.add (k * 2)).block,(ad'.add (k * 2)).off+1,none⟩=some (.slice y.A y.n y.c)/\Below wr.heap.size wr W):=fun W h=>by
        have hz:=hb.size
        exact⟨(h.cell (by rw[zU];omega)).trans d0,(h.cell (by show(ad.add (k * 2)).block < _;rw[zU];omega)).trans d1,(h.cell (by rw[zU];omega)).trans e0,(h.cell (by show(ad'.add (k * 2)).block < _;rw[zU];omega)).trans e1,h⟩
      go_wp2_with fail
      go_region_held3 (fun W=>W.cell? (ad.add (k * 2))=some (.string x.s)/\W.cell? ⟨(ad.add (k * 2)).block,(ad.add (k * 2)).off+1,none⟩=some (.slice x.A x.n x.c)/\W.cell? (ad'.add (k * 2))=some (.string y.s)/\W.cell? ⟨(ad'.add (k * 2)).block,(ad'.add (k * 2)).off+1,none⟩=some (.slice y.A y.n y.c)/\Below wr.heap.size wr W)
        (first
          | exact HKS.out _ (Below.drew (Below.refl _ _))
          | (go_split_ands;exact HKS.out _ (by assumption))
          | (go_split_ands;exact HKS.out _ (zf (by assumption) (Nat.le_refl _) hb1)))
        (first
          | (go_at_call 46;refine(HC.out _ ?_).mono ?_;(go_split_ands;assumption);rintro e w1 ⟨rfl,hb1⟩))
      all_goals
        go_wp2_with fail
        go_roundw
        case rel=>exact⟨k+1,by omega,by go_num,zf hb.drew (Nat.le_refl _) hb1⟩
        case measure=>simp [intOf];omega
    . go_wp2_with fail
      go_ret
      exact⟨rfl,hb⟩
theorem zqb(s:ByteArray)(o:Int):(chars s.data.toList (comp (List.replicate s.size (zaa o))))=s.data.toList.map fun b=>(b,zaa o):=by
  have hl:s.data.toList.length=s.size:=by rw[Array.length_toList];rfl
  have h1:=zfo o
  have h2:=zfp o
  generalize zaa o=q at *
  have hi:InR (s.data.toList.map fun b=>((b,q):UInt8 × Int)):=by
    intro x hx
    simp only[List.map_map,List.mem_map,Function.comp]at hx
    obtain⟨b,_,rfl⟩:=hx
    exact⟨h1,h2⟩
  have h:=zcI hi
  unfold zi at h
  simp only[List.map_map]at h
  have e1:(s.data.toList.map ((fun(x:UInt8 × Int)=>x.1) ∘ fun b=>(b,q)))=s.data.toList:=by
    rw[show((fun(x:UInt8 × Int)=>x.1) ∘ fun b=>(b,q))=id from rfl,List.map_id]
  have e2:(s.data.toList.map ((fun(x:UInt8 × Int)=>x.2) ∘ fun b=>(b,q)))=List.replicate s.size q:=by
    rw[show((fun(x:UInt8 × Int)=>x.2) ∘ fun(b:UInt8)=>(b,q))=fun _=>q from rfl,List.map_const',hl]
  rw[e1,e2]at h
  exact h
theorem zph(s:ByteArray)(o:Int)(l:Ch)(w:World)(hs:s.size<=4294967296)(hl:(s.data.toList.map fun b=>((b,zaa o):UInt8 × Int))=l) :
    Calls Tryz.prog 24 #[.string s,.int .i64 o] w fun e w'=>∃ t:LT,e=.returned (.agg #[.string s,.slice t.A t.n t.c])/\Hid (t.s=s/\t.ch=l/\OwnL w' w.heap.size t)/\Below w.heap.size w w':=by
  subst hl
  refine(znY s o w hs).mono ?_
  rintro e w1 ⟨v1,rfl,ho1,hb1⟩
  obtain⟨A1,c1,rfl,_,_,_⟩:=zh ho1
  have hlen:(comp (List.replicate s.size (zaa o))).length<=s.size:=by
    have:=zD (List.replicate s.size (zaa o))
    rw[List.length_replicate]at this
    exact this
  exact⟨⟨s,A1,_,c1,comp (List.replicate s.size (zaa o))⟩,rfl,⟨rfl,zqb s o,rfl,⟨Nat.le_trans hlen hs,zm9 s o A1 c1⟩,hs,ho1⟩,hb1⟩
def ex15:Ch:=[(97,5),(38,5),(108,5),(116,5),(59,5),(98,5)]
theorem znS:decE ex15=[(97,5),(60,5),(98,5)]:=by
  unfold ex15
  rw[zfJ (l:=[((97:UInt8),(5:Int)),(38,5),(108,5),(116,5),(59,5),(98,5)]) (b:=97) (o:=5) rfl (by decide) (zcg (by decide)),List.drop_succ_cons,List.drop_zero]
  rw[znh (n:=60) (k:=4) (by decide),show([(38,5),(108,5),(116,5),(59,5),(98,5)]:Ch).drop 4=[(98,5)]from rfl]
  rw[zfJ (l:=[((98:UInt8),(5:Int))]) (b:=98) (o:=5) rfl (by decide) (zcg (by decide)),List.drop_succ_cons,List.drop_zero,zb0]
  decide
theorem zmu:zhR ex15=[⟨3,[],[],false,[(97,5),(60,5),(98,5)]⟩]:=by
  show tokQ [] ex15=_
  rw[zer,show ltT ex15=6 from rfl,show ex15.drop 6=[]from rfl,show ex15.take 6=ex15 from rfl,zdP,znS]
  rfl
theorem zho:zlq ex15=[⟨[],[],[],[(97,5),(60,5),(98,5)]⟩]:=by
  rw[zjK (zjS (by decide)) (by decide),zmu]
  kernel_rfl
theorem zif(mx:Int)(w:World)(hmx:w.cell? ⟨0,0,none⟩=some (.int .i64 mx)):Calls Tryz.prog 7 #[] w fun e w'=>e=.returned (.bool true)/\Below w.heap.size w w':=by
  have HM:=Lib.hid hmx
  have hlo:0 < w.heap.size:=zdi _ _ _ hmx
  clear hmx
  go_enter Tryz.func7,Tryz.ntmps7
  go_wp2_with fail
  refine(zph ⟨#[97,38,108,116,59,98]⟩ 5 ex15 w (by show(6:Nat)<=_;omega) (by decide)).mono ?_
  rintro e w1 ⟨t1,rfl,h1,hb1⟩
  have HRD:Hid (Calls Tryz.prog 9 #[.agg #[.string ⟨#[97,38,108,116,59,98]⟩,.slice t1.A t1.n t1.c]] w1 (zp5 ex15 w1)):=by
    have h:=zmr t1 mx w1 h1.out.2.2.ok ((hb1.cell hlo).trans HM.out)
    rw[h1.out.1,h1.out.2.1]at h
    refine h.mono ?_
    rintro e w' (⟨hz,_⟩ | ⟨_,h⟩)
    . exact absurd hz (by show ¬ 65536 < (6:Nat);omega)
    . exact h
  have HB1:=Lib.hid hb1
  clear h1 hb1
  go_wp2_with fail
  refine HRD.out.mono ?_
  rintro e w2 ⟨K,kn,kc,kids,rfl,h2,hb2⟩
  have HB2:Hid (Below w.heap.size w w2):=zf HB1.out (Nat.le_refl _) hb2
  obtain⟨x,rfl⟩:∃ x,kids=[x]:=by
    have h3:=congrArg List.length (h2.out.2.trans zho)
    rw[zv]at h3
    exact List.length_eq_one_iff.1 h3
  have hn:kn=1:=h2.out.1.len.symm
  subst hn
  have hxc:x.text.ch=[(97,5),(60,5),(98,5)]:=by
    have h3:=h2.out.2.trans zho
    rw[chL,chL]at h3
    injection h3 with h3
    have h4:=congrArg PT.text h3
    rw[TT.ch_text]at h4
    exact h4
  obtain⟨ad,x2,rfl,_,_,_,_,_,e4,e5,hx2⟩:=h2.out.1.lies.lies.tree (k:=0) (by show 0 < 1;omega)
  have hxx:x2=x:=by have:=hx2.out;simp at this;exact this.symm
  subst hxx
  have hs:x2.text.s=⟨#[97,60,98]⟩:=by
    have h4:x2.text.bs=[97,60,98]:=by rw[<-LT.ch_fst,hxc];rfl
    have h5:x2.text.s.data=#[97,60,98]:=Array.toList_inj.1 h4
    exact congrArg ByteArray.mk h5
  have k4:w2.cell? ⟨ad.block,ad.off+4,none⟩=some (.string ⟨#[97,60,98]⟩):=hs ▸ e4
  have k5:w2.cell? ⟨ad.block,ad.off+5,none⟩=some (.slice x2.text.A x2.text.n x2.text.c):=e5
  have HW:Hid (Calls Tryz.prog 25 #[.agg #[.string ⟨#[97,60,98]⟩,.slice x2.text.A x2.text.n x2.text.c]] w2 fun e w'=>e=.returned (.int .i64 5)/\Below w2.heap.size w2 w'):=by
    have hok:=((h2.out.1.all.get (List.mem_singleton.2 rfl)).text).ok
    have h:Calls Tryz.prog 25 #[.agg #[.string x2.text.s,.slice x2.text.A x2.text.n x2.text.c]] w2 fun e w'=>e=.returned (.int .i64 (zaF x2.text.os))/\Below w2.heap.size w2 w':=zgw x2.text.s x2.text.A x2.text.n x2.text.c x2.text.rs w2 hok.1 hok.2.1 hok.2.2.2 hok.2.2.1
    have ho:=x2.text.ch_snd
    rw[hxc]at ho
    rw[<-ho,hs]at h
    exact h
  clear h2 hb2 hxc e4 e5 hx2 hs HRD
  go_wp2_with fail
  refine HW.out.mono ?_
  rintro e w3 ⟨rfl,hb3⟩
  go_wp2_with fail
  go_ret
  exact⟨rfl,zf HB2.out (Nat.le_refl _) hb3⟩
theorem zeD(mx:Int)(A:Option Addr)(n c:Nat)(ts:List TT)(w:World)(hmx:w.cell? ⟨0,0,none⟩=some (.int .i64 mx))(h:TreesIn0 w A n ts) :
    Calls Tryz.prog 5 #[.slice A n c] w fun e w'=>e=.returned (.bool true)/\Below w.heap.size w w':=by
  have HM:=Lib.hid hmx
  have HI:=Lib.hid h
  have HS:Hid (∀ w',Below w.heap.size w w'->Calls Tryz.prog 15 #[.slice A n c] w' fun e w''=>e=.returned (.int .i64 (wtL (zp (chL ts)):Int))/\Below w'.heap.size w' w''):=fun w' hb=>by
    have h2:=h.next hb
    exact znB A n c ts w' h2.lies h2.all h2.len (fun _ h=>h) h2.bulk
  have HBK:Hid (bkL (zp (chL ts))<=1048576):=Nat.le_trans (zbY _) h.bulk
  clear h hmx
  go_enter Tryz.func5,Tryz.ntmps5
  go_wp2_with fail
  refine(zif mx w HM.out).mono ?_
  rintro e w1 ⟨rfl,hb1⟩
  have HB1:=Lib.hid hb1
  clear hb1
  go_wp2_with fail
  refine(HS.out w1 HB1.out).mono ?_
  generalize wtL (zp (chL ts))=sz at *
  rintro e w2 ⟨rfl,hb2⟩
  have HB2:Hid (Below w.heap.size w w2):=zf HB1.out (Nat.le_refl _) hb2
  clear hb2 HS
  by_cases hbig:(200:Int) < (sz:Int)
  . go_wp2_with fail
    go_ret
    exact⟨rfl,HB2.out⟩
  . go_wp2_with fail
    refine(zms A n c ts w2 (HI.out.next HB2.out)).mono ?_
    rintro e w3 ⟨A3,m3,c3,us,rfl,h3,hb3⟩
    have H3:=Lib.hid h3.out
    have HB3:Hid (Below w.heap.size w w3):=zf HB2.out (Nat.le_refl _) hb3
    clear h3 hb3
    go_wp2_with fail
    refine(zc0 A n c ts w3 (HI.out.next HB3.out)).mono ?_
    rintro e w4 ⟨A4,c4,ms,rfl,ho4,hm4,⟨hq4,_⟩,hb4⟩
    have HB4:=Lib.hid hb4
    have HNC:=Lib.hid (zie (zp (chL ts)) (fun b=>w3.heap.size<=b/\b < w4.heap.size) A4 ms.length c4 ms w4 hq4 (fun b h=>h.2) ((zbZ ho4).mono fun b hb hl=>⟨hb,hl⟩) (hm4.mono fun b hb hl=>⟨hb,hl⟩) rfl HBK.out)
    rw[hq4]at HNC
    clear ho4 hm4 hq4 hb4
    go_wp2_with fail
    refine HNC.out.mono ?_
    rintro e w5 ⟨A5,m5,c5,vs,rfl,h5,hb5⟩
    obtain⟨⟨A6,c6,e6,ho6,hi6⟩,hl6,hc6⟩:=h5.out
    injection e6 with e61 e62 e63
    subst e61 e62 e63
    have hb35:Below w3.heap.size w3 w5:=zf HB4.out (Nat.le_refl _) hb5
    have hmn:m3=vs.length:=by
      have h1:=H3.out.2.1
      have h2:=congrArg List.length (H3.out.2.2.2.trans ((zdy _).symm.trans hc6.symm))
      rw[List.length_map,List.length_map]at h2
      omega
    subst hmn
    have hvl:vs.length<=1048576:=by
      have h1:=ziC (zp (chL ts))
      rw[<-hc6,List.length_map]at h1
      have:=HBK.out
      omega
    have HST:Hid (Calls Tryz.prog 19 #[.slice A3 vs.length c3,.slice A5 vs.length c5] w5 fun e w'=>e=.returned (.bool true)/\Below w5.heap.size w5 w'):=
      zmt A3 vs.length c3 us A5 c5 vs w5 (H3.out.1.next hb35 (Nat.le_refl _)) (Lies.own ho6) H3.out.2.1 (H3.out.2.2.2.trans ((zdy _).symm.trans hc6.symm)) (fun u hu=>(H3.out.2.2.1 u hu).next hb35 (Nat.le_refl _)) (fun u hu=>(hi6 u hu).ok) (by omega)
    have HBZ:Hid (Below w.heap.size w w5):=zf HB3.out (Nat.le_refl _) hb35
    clear h5 hb5 ho6 hi6 hl6 hc6 hb35 HNC hvl
    go_wp2_with fail
    refine HST.out.mono ?_
    rintro e w7 ⟨rfl,hb7⟩
    have HBE:Hid (Below w.heap.size w w7):=zf HBZ.out (Nat.le_refl _) hb7
    clear hb7
    go_wp2_with fail
    go_ret
    exact⟨rfl,HBE.out⟩
end Go.Proofs.YtddgabjhligeeaaGreat.mk
namespace Go.Proofs.YtddgabjhligeeaaGreat.readerNames
open Go.ChangeShapes Go.WideShapes Go.ChangeAt Go.RowKit Go.Proofs.YtddgabjhligeeaaGreat.mk
theorem contract(H:Type)(enc:TypeId × Value->H)(W:World)(args:Array Value)(ds gs:List (DataW H))(before:List MemPlace)(base:Nat)(hsh:W.ShapedOpen Tryz.prog)
    (hval:∀ (j:Nat) t v,Tryz.f5.params[j]?=some t->args[j]?=some v->Value.okWide Tryz.prog W .any base t v)
    (hW:DataW.Whole enc Tryz.prog Tryz.f5.params.toList Rows.readerNamesSpec.vars false W args.toList ds gs before) (hk:Rows.uptoSmall H (ds++ gs)=true) :
    Calls Tryz.prog 5 args W fun e W'=>∃ v,e=.returned v/\Rows.readerNamesSpec.post enc Tryz.prog Tryz.f5 false true false false W args v W':=by
  obtain⟨p,q,hA0,hV,rfl,hfz,hnd⟩:=id hW
  have hA:DataW.TrodAll enc Tryz.prog W 0 (fun _=>true) true Tryz.f5.params.toList args.toList ds p:=hA0
  rw[Tryz.params5]at hA hval
  obtain⟨v0,vs0,d0,ds0,p0,q0,hargs,rfl,rfl,h0,r0⟩:=trodAll_cons hA
  obtain⟨rfl,rfl,rfl⟩:=trodAll_nil r0
  obtain rfl:args=#[v0]:=by cases args;simp_all
  obtain⟨rfl,rfl⟩:=trodVars_none hV
  have hbk:=zi9 hk
  simp only[List.append_nil,Rows.uptoBulkAll]at hbk
  have hbk2:Rows.uptoBulk d0<=1048576:=by omega
  obtain⟨fuel0,hf0⟩:=h0
  obtain⟨L0,m0,c0,rfl⟩:=okWide_slice Tryz.underlying27 (hval 0 27 v0 rfl rfl)
  obtain⟨L0',m0',c0',ts0,hv0,hl0,hm0,hLc0,hmc0,hok0,hsz0⟩:=zjP hf0 (by show Rows.uptoBulk d0<=1048576;omega)
  cases hv0
  simp only at hsz0
  obtain⟨mx,hmx⟩:=Tryz.maxLen_cell hsh
  refine(zeD mx L0 m0 c0 ts0 W hmx ⟨hl0,hok0,hm0,(by omega)⟩).mono fun e W' ⟨he,hb⟩=>?_
  subst he
  exact⟨_,rfl,zmz (tb:=4) zod hW rfl ⟨rfl,rfl,rfl⟩ (by rw[Tryz.params5];exact zgl (by kernel_rfl)) rfl Tryz.underlying4 hb⟩
theorem lifted(os:Os)(started:os.Started)(H:Type)(enc:TypeId × Value->H)(F:Stop.Interp) :
    ReturnsInHanded {} Tryz.checked os 5 .any ((Rows.OpenSpec.upto Rows.readerNamesSpec).pre6 enc Tryz.prog Tryz.f5 Rows.readerNamesUptoRow.domain false) (((Rows.OpenSpec.upto Rows.readerNamesSpec).at F).post enc Tryz.prog Tryz.f5 false true false false):=by
  refine zfs (C:=Tryz.checked) (s:=Rows.OpenSpec.upto Rows.readerNamesSpec) (k:=Rows.uptoSmall) rfl own started (by kernel_rfl) Tryz.func5
    (OpenSpec.witness (enc:=enc) (C:=Tryz.checked) (s:=Rows.OpenSpec.upto Rows.readerNamesSpec) (k:=Rows.uptoSmall) rfl false ⟨#[],#[.slice none 0 0],[]⟩ 8 (by kernel_rfl) (by kernel_rfl) (by kernel_rfl)
      (x:=([.nil],[],[])) (by kernel_rfl) rfl (by kernel_rfl)) ?_
  intro W base args ds gs before hsh hval hW hk
  exact contract H enc W args ds gs before base hsh hval hW hk
theorem proved:Rows.ReaderNamesUptoSaid:=
  OpenClaim.holds_of_cond 5 Tryz.f5 rfl rfl rfl rfl rfl rfl rfl ⟨rfl,rfl,rfl,rfl,rfl⟩ rfl rfl rfl rfl rfl (by kernel_rfl) Tryz.func5 (by kernel_rfl)
    (of_decide_eq_true (by kernel_rfl)) (by unfold Func.isWrapper;first | (rw[if_pos (by decide+kernel)];kernel_rfl) | (rw[if_neg (by decide+kernel)];exact⟨rfl,rfl⟩))
    (fun os started H enc _ F=>lifted os started H enc F)
end Go.Proofs.YtddgabjhligeeaaGreat.readerNames
