import Derived.Test.YtddgabjhligeeaaGreatJoinU
import Derived.Test.YtddgabjhligeeaaGreatJoinAZ
import Derived.Test.YtddgabjhligeeaaGreatJoinBA
import Derived.Test.YtddgabjhligeeaaGreatJoinAG
set_option maxHeartbeats 4000000
set_option maxRecDepth 100000
namespace Go.Proofs.YtddgabjhligeeaaGreat.mk
open Go.RowKit Go.Maps
def TK.kt(t:TK):KT:=⟨(t.kind:Int),t.nm,t.A,t.n,t.c,t.ats,t.close,t.tx⟩
theorem zss(ts:List TK):zeM (ts.map TK.kt)=zcP ts:=by
  unfold zeM zcP
  rw[List.flatMap_map]
  rfl
theorem zu9(ts:List TK):(ts.map TK.kt).map KT.ch=(ts.map TK.pt).map toKP:=by
  rw[List.map_map,List.map_map]
  rfl
theorem zva{t:KP}{L:List KP}(h:t∈L):t.bk<=kbL L:=by
  induction L with
  | nil=>cases h
  | cons a L ih=>
    have e:kbL (a::L)=a.bk+kbL L:=by unfold kbL;rw[List.map_cons,List.sum_cons]
    rcases List.mem_cons.1 h with rfl | h
    . omega
    . have:=ih h;omega
theorem zue{w:World}{base c:Nat}{A:Option Addr}{ts:List TK}{L:List PTok}(ho:w.ownsRow base 98 7 (.slice A ts.length c) ts.length (zcP ts))(hk:∀ t∈ts,OwnT w base t)(hp:ts.map TK.pt=L)(hL:kbL (L.map toKP)<=1048575) :
    ToksIn (fun b=>b < w.heap.size) w A ts.length (ts.map TK.kt):=by
  have hlt:∀ b,base<=b->b < w.heap.size->b < w.heap.size:=fun b _ h=>h
  refine⟨?_,?_,by rw[List.length_map],by rw[zu9,hp];exact hL⟩
  . rw[zss]
    exact(zdF ho).mono hlt
  . intro t ht
    obtain⟨x,hx,rfl⟩:=List.mem_map.1 ht
    obtain⟨h1,h2,h3,h4,h5⟩:=hk x hx
    have ham:x.n<=1048576:=by
      have e1:x.pt∈L:=by rw[<-hp];exact List.mem_map.2 ⟨x,hx,rfl⟩
      have e2:(toKP x.pt).bk<=kbL (L.map toKP):=zva (List.mem_map.2 ⟨x.pt,e1,rfl⟩)
      have e3:x.ats.length<=(toKP x.pt).bk:=by
        show _<=x.nm.ch.length+(x.ats.map AT.ch).length+x.tx.ch.length+1
        rw[List.length_map]
        omega
      omega
    obtain⟨_,_,ev,hA,_,_⟩:=zg h2
    injection ev with e1 _ e3
    refine⟨h1.inS.mono hlt,h5.inS.mono hlt,(zdF h2).mono hlt,h3,fun e=>?_,ham,fun a ha=>⟨((h4 a ha).1.inS).mono hlt,((h4 a ha).2.inS).mono hlt⟩⟩
    have e':x.A=none:=e
    show x.c=0
    rw[e3]
    exact hA (by rw[<-e1];exact e')
theorem zk9(a:LT)(w:World)(ha:a.ok w w.heap.size):Calls Tryz.prog 13 #[.agg #[.string a.s,.slice a.A a.n a.c]] w (zil (zad a.ch) w):=by
  refine(zog a.s a.A a.n a.c a.rs w ha.1 ha.2.1 ha.2.2.2 ha.2.2.1).mono fun e w' h=>zec (l:=zad a.ch) (InR.lines a.ch_in) ?_ h
  have h1:=zbj a.ch
  have h2:=ha.2.2.2
  rw[LT.ch_length]at h1
  omega
theorem zj2(a:LT)(w:World)(ha:a.ok w w.heap.size)(hs:a.s.size<=268435456):Calls Tryz.prog 12 #[.agg #[.string a.s,.slice a.A a.n a.c]] w (zil (rep a.ch) w):=by
  refine(zmD a.s a.A a.n a.c a.rs w ha.1 ha.2.1 hs ha.2.2.1).mono fun e w' h=>zec (l:=rep a.ch) (InR.rep a.ch_in) ?_ h
  have h1:=zdj a.ch
  rw[LT.ch_length]at h1
  omega
def zvb(l:Ch)(w:World)(e:Ending)(w':World):Prop:=
  ∃ (K:Option Addr) (kn kc:Nat) (kids:List TT),e=.returned (.tuple #[.slice K kn kc,.int .i64 0])/\Hid (TreesIn0 w' K kn kids/\chL kids=zmU l)/\Below w.heap.size w w'
theorem znK(u:LT)(mx:Int)(w:World)(hu:u.ok w w.heap.size)(l:Ch)(hl:u.ch=rep (zad l))(hz:l.length<=65536)(hmx:w.cell? ⟨0,0,none⟩=some (.int .i64 mx)) :
    Calls Tryz.prog 11 #[.agg #[.string u.s,.slice u.A u.n u.c]] w fun e w'=>∃ (A:Option Addr) (n c:Nat) (ts:List KT),e=.returned (.slice A n c)/\Hid (ToksIn (fun b=>b < w'.heap.size) w' A n ts/\zb8 (ts.map KT.ch)=zmU l)/\Below w.heap.size w w':=by
  have h1:=zbj l
  have h2:=zdj (zad l)
  have h3:=zmY (rep (zad l))
  have hus:u.s.size=u.ch.length:=(LT.ch_length u).symm
  refine(zj1 u mx w hu (by rw[hus,hl];omega) hmx).mono ?_
  rintro e w' ⟨A,c,ts,rfl,hq,hb⟩
  obtain⟨ho,hk,hp⟩:=hq.out
  refine⟨A,ts.length,c,ts.map TK.kt,rfl,⟨zue ho hk hp (by rw[hl];omega),?_⟩,hb⟩
  rw[zu9,hp,hl]
  rfl
theorem zj3(a:LT)(mx:Int)(w:World)(ha:a.ok w w.heap.size)(hmx:w.cell? ⟨0,0,none⟩=some (.int .i64 mx)) :
    Calls Tryz.prog 9 #[.agg #[.string a.s,.slice a.A a.n a.c]] w fun e w'=>(65536 < a.s.size/\e=.returned (.tuple #[.slice none 0 0,.int .i64 5])/\Below w.heap.size w w')\/(a.s.size<=65536/\zvb a.ch w e w'):=by
  have HM:=Lib.hid hmx
  have hlo:0 < w.heap.size:=zcx _ _ _ hmx
  have HA:=Lib.hid ha
  clear hmx ha
  go_enter Tryz.func9,Tryz.ntmps9
  go_upto_region 1 with fail
  generalize hw0:w.alloc (.cells #[.string a.s,.slice a.A a.n a.c] 24)=w0
  have y0:Whole w0 w.heap.size 24 #[.string a.s,.slice a.A a.n a.c]:=by rw[<-hw0];exact Whole.made w _ _
  have HB0:Hid (Below w.heap.size w w0):=by rw[<-hw0];exact(Below.refl _ _).alloc (Nat.le_refl _) _
  clear hw0
  have c0:=y0.at_ 0
  have c1:=y0.at_ 1
  clear y0
  by_cases hz:65536 < a.s.size
  . have hz':(65536:Int) < (a.s.size:Int):=by omega
    go_wp2_with fail
    go_ret2
    exact .inl ⟨hz,rfl,HB0.out⟩
  . have hz':¬ (65536:Int) < (a.s.size:Int):=by omega
    have HZ:Hid (a.ch.length<=65536):=by show _<=_;rw[LT.ch_length];omega
    go_wp2_with fail
    refine(zk9 a w0 (HA.out.next HB0.out (Nat.le_refl _))).mono ?_
    rintro e w1 ⟨u1,rfl,h1,hb1⟩
    have HB1:Hid (Below w.heap.size w w1):=zb HB0.out (Nat.le_refl _) hb1
    have HU1:=Lib.hid h1.out
    clear h1 hb1
    go_wp2_with fail
    refine(zj2 u1 w1 HU1.out.2.ok (by have h:=zbj a.ch;rw[<-HU1.out.1,LT.ch_length]at h;have:=HZ.out;omega)).mono ?_
    rw[HU1.out.1]
    rintro e w2 ⟨u2,rfl,h2,hb2⟩
    have HB2:Hid (Below w.heap.size w w2):=zb HB1.out (Nat.le_refl _) hb2
    have HU2:=Lib.hid h2.out
    clear h2 hb2
    go_wp2_with fail
    refine(znK u2 mx w2 HU2.out.2.ok a.ch HU2.out.1 HZ.out ((HB2.out.cell hlo).trans HM.out)).mono ?_
    rintro e w3 ⟨A3,n3,c3,ts,rfl,h3,hb3⟩
    have HB3:Hid (Below w.heap.size w w3):=zb HB2.out (Nat.le_refl _) hb3
    have HU3:=Lib.hid h3.out
    clear h3 hb3
    go_wp2_with fail
    refine(zqA A3 n3 c3 ts w3 HU3.out.1 (fun b h=>h)).mono ?_
    rintro e w4 ⟨K,kn,kc,kids,rfl,hin,hch,hb4⟩
    have HB4:Hid (Below w.heap.size w w4):=zb HB3.out (Nat.le_refl _) hb4
    have HIN:=Lib.hid hin
    have HCH:=Lib.hid hch
    clear hin hch hb4
    go_wp2_with fail
    go_ret2
    exact .inr ⟨by omega,K,kn,kc,kids,rfl,⟨HIN.out,HCH.out.trans HU3.out.2⟩,HB4.out⟩
end Go.Proofs.YtddgabjhligeeaaGreat.mk
namespace Go.Proofs.YtddgabjhligeeaaGreat.mk
open Go.RowKit
theorem zvc(s:ByteArray)(o:Int):(chars s.data.toList (comp (List.replicate s.size (zaq o))))=s.data.toList.map fun b=>(b,zaq o):=by
  have hl:s.data.toList.length=s.size:=by rw[Array.length_toList];rfl
  have h1:=zhI o
  have h2:=zhJ o
  generalize zaq o=q at *
  have hi:InR (s.data.toList.map fun b=>((b,q):UInt8 × Int)):=by
    intro x hx
    simp only[List.map_map,List.mem_map,Function.comp]at hx
    obtain⟨b,_,rfl⟩:=hx
    exact⟨h1,h2⟩
  have h:=zcJ hi
  unfold zh at h
  simp only[List.map_map]at h
  have e1:(s.data.toList.map ((fun(x:UInt8 × Int)=>x.1) ∘ fun b=>(b,q)))=s.data.toList:=by
    rw[show((fun(x:UInt8 × Int)=>x.1) ∘ fun b=>(b,q))=id from rfl,List.map_id]
  have e2:(s.data.toList.map ((fun(x:UInt8 × Int)=>x.2) ∘ fun b=>(b,q)))=List.replicate s.size q:=by
    rw[show((fun(x:UInt8 × Int)=>x.2) ∘ fun(b:UInt8)=>(b,q))=fun _=>q from rfl,List.map_const',hl]
  rw[e1,e2]at h
  exact h
theorem zuf(s:ByteArray)(o:Int)(l:Ch)(w:World)(hs:s.size<=4294967296)(hl:(s.data.toList.map fun b=>((b,zaq o):UInt8 × Int))=l) :
    Calls Tryz.prog 24 #[.string s,.int .i64 o] w fun e w'=>∃ t:LT,e=.returned (.agg #[.string s,.slice t.A t.n t.c])/\Hid (t.s=s/\t.ch=l/\OwnL w' w.heap.size t)/\Below w.heap.size w w':=by
  subst hl
  refine(zlj s o w hs).mono ?_
  rintro e w1 ⟨v1,rfl,ho1,hb1⟩
  obtain⟨A1,c1,rfl,_,_,_⟩:=zg ho1
  have hlen:(comp (List.replicate s.size (zaq o))).length<=s.size:=by
    have:=zE (List.replicate s.size (zaq o))
    rw[List.length_replicate]at this
    exact this
  exact⟨⟨s,A1,_,c1,comp (List.replicate s.size (zaq o))⟩,rfl,⟨rfl,zvc s o,rfl,⟨Nat.le_trans hlen hs,zlM s o A1 c1⟩,hs,ho1⟩,hb1⟩
def ex15:Ch:=[(97,5),(38,5),(108,5),(116,5),(59,5),(98,5)]
theorem zst:decE ex15=[(97,5),(60,5),(98,5)]:=by
  unfold ex15
  rw[zd7 (l:=[((97:UInt8),(5:Int)),(38,5),(108,5),(116,5),(59,5),(98,5)]) (b:=97) (o:=5) rfl (by decide) (zbW (by decide)),List.drop_succ_cons,List.drop_zero]
  rw[zlR (n:=60) (k:=4) (by decide),show([(38,5),(108,5),(116,5),(59,5),(98,5)]:Ch).drop 4=[(98,5)]from rfl]
  rw[zd7 (l:=[((98:UInt8),(5:Int))]) (b:=98) (o:=5) rfl (by decide) (zbW (by decide)),List.drop_succ_cons,List.drop_zero,zca]
  decide
theorem zqB:zky ex15=[⟨3,[],[],false,[(97,5),(60,5),(98,5)]⟩]:=by
  show tokQ [] ex15=_
  rw[zdc,show ltT ex15=6 from rfl,show ex15.drop 6=[]from rfl,show ex15.take 6=ex15 from rfl,zd9,zst]
  rfl
theorem zj4:zmU ex15=[⟨[],[],[],[(97,5),(60,5),(98,5)]⟩]:=by
  rw[zhj (zeK (by decide)) (by decide),zqB]
  kernel_rfl
theorem zla(mx:Int)(w:World)(hmx:w.cell? ⟨0,0,none⟩=some (.int .i64 mx)):Calls Tryz.prog 7 #[] w fun e w'=>e=.returned (.bool true)/\Below w.heap.size w w':=by
  have HM:=Lib.hid hmx
  have hlo:0 < w.heap.size:=zcx _ _ _ hmx
  clear hmx
  go_enter Tryz.func7,Tryz.ntmps7
  go_wp2_with fail
  refine(zuf ⟨#[97,38,108,116,59,98]⟩ 5 ex15 w (by show(6:Nat)<=_;omega) (by decide)).mono ?_
  rintro e w1 ⟨t1,rfl,h1,hb1⟩
  have HRD:Hid (Calls Tryz.prog 9 #[.agg #[.string ⟨#[97,38,108,116,59,98]⟩,.slice t1.A t1.n t1.c]] w1 (zvb ex15 w1)):=by
    have h:=zj3 t1 mx w1 h1.out.2.2.ok ((hb1.cell hlo).trans HM.out)
    rw[h1.out.1,h1.out.2.1]at h
    refine h.mono ?_
    rintro e w' (⟨hz,_⟩ | ⟨_,h⟩)
    . exact absurd hz (by show ¬ 65536 < (6:Nat);omega)
    . exact h
  have HB1:=Lib.hid hb1
  clear h1 hb1
  go_wp2_with fail
  refine HRD.out.mono ?_
  rintro e w2 ⟨K,kn,kc,kids,rfl,h2,hb2⟩
  have HB2:Hid (Below w.heap.size w w2):=zb HB1.out (Nat.le_refl _) hb2
  obtain⟨x,rfl⟩:∃ x,kids=[x]:=by
    have h3:=congrArg List.length (h2.out.2.trans zj4)
    rw[zx]at h3
    exact List.length_eq_one_iff.1 h3
  have hn:kn=1:=h2.out.1.len.symm
  subst hn
  have hxc:x.text.ch=[(97,5),(60,5),(98,5)]:=by
    have h3:=h2.out.2.trans zj4
    rw[chL,chL]at h3
    injection h3 with h3
    have h4:=congrArg PT.text h3
    rw[TT.ch_text]at h4
    exact h4
  obtain⟨ad,x2,rfl,_,_,_,_,_,e4,e5,hx2⟩:=h2.out.1.lies.lies.tree (k:=0) (by show 0 < 1;omega)
  have hxx:x2=x:=by have:=hx2.out;simp at this;exact this.symm
  subst hxx
  have hs:x2.text.s=⟨#[97,60,98]⟩:=by
    have h4:x2.text.bs=[97,60,98]:=by rw[<-LT.ch_fst,hxc];rfl
    have h5:x2.text.s.data=#[97,60,98]:=Array.toList_inj.1 h4
    exact congrArg ByteArray.mk h5
  have k4:w2.cell? ⟨ad.block,ad.off+4,none⟩=some (.string ⟨#[97,60,98]⟩):=hs ▸ e4
  have k5:w2.cell? ⟨ad.block,ad.off+5,none⟩=some (.slice x2.text.A x2.text.n x2.text.c):=e5
  have HW:Hid (Calls Tryz.prog 25 #[.agg #[.string ⟨#[97,60,98]⟩,.slice x2.text.A x2.text.n x2.text.c]] w2 fun e w'=>e=.returned (.int .i64 5)/\Below w2.heap.size w2 w'):=by
    have hok:=((h2.out.1.all.get (List.mem_singleton.2 rfl)).text).ok
    have h:Calls Tryz.prog 25 #[.agg #[.string x2.text.s,.slice x2.text.A x2.text.n x2.text.c]] w2 fun e w'=>e=.returned (.int .i64 (zaH x2.text.os))/\Below w2.heap.size w2 w':=ziT x2.text.s x2.text.A x2.text.n x2.text.c x2.text.rs w2 hok.1 hok.2.1 hok.2.2.2 hok.2.2.1
    have ho:=x2.text.ch_snd
    rw[hxc]at ho
    rw[<-ho,hs]at h
    exact h
  clear h2 hb2 hxc e4 e5 hx2 hs HRD
  go_wp2_with fail
  refine HW.out.mono ?_
  rintro e w3 ⟨rfl,hb3⟩
  go_wp2_with fail
  go_ret
  exact⟨rfl,zb HB2.out (Nat.le_refl _) hb3⟩
end Go.Proofs.YtddgabjhligeeaaGreat.mk
