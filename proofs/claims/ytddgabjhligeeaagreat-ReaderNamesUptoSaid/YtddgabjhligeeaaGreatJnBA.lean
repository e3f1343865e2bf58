import Derived.Test.YtddgabjhligeeaaGreatJnAY
import Derived.Test.YtddgabjhligeeaaGreatJnAD
set_option maxHeartbeats 4000000
set_option maxRecDepth 100000
namespace Go.Proofs.YtddgabjhligeeaaGreat.mk
open Go.RowKit
theorem SrcM.belowG{w w':World}{g:Nat}{L:Ch}{i m:Nat}{v4 v5:Value}(h:SrcM w g L i m v4 v5)(hb:Below (g+1) w w'):SrcM w' g L i m v4 v5:=by
  obtain⟨A,n,c,k,hW,hL,r⟩:=h.cells
  exact⟨⟨A,n,c,k,hW.below hb (Nat.lt_succ_self _),hL.below (hb.mono (Nat.le_succ _)),r⟩,h.le,h.inr,h.len⟩
theorem Src.belowG{w w':World}{g:Nat}{L r:Ch}{v4 v5:Value}(h:Src w g L r v4 v5)(hb:Below (g+1) w w'):Src w' g L r v4 v5:=by obtain⟨i,e,h⟩:=h;exact⟨i,e,h.belowG hb⟩
def zl6(L:Ch)(g:Nat)(w:World):Nat:=L.length - (intOf ((w.cell? ⟨g,1,none⟩).getD .nilFunc)).toNat
theorem zf8{L r:Ch}{g:Nat}{w:World}{v4 v5:Value}(h:Src w g L r v4 v5):zl6 L g w=r.length:=by
  have hl:=h.len
  obtain⟨A,n,c,k,hW⟩:=h.cells
  have e:w.cell? ⟨g,1,none⟩=some (.int .i64 ((L.length - r.length:Nat):Int)):=hW.at_ 1
  unfold zl6
  rw[e]
  show L.length - (((L.length - r.length:Nat):Int)).toNat=_
  omega
def zl7(g:Nat)(L:Ch)(ps:List PA)(r:Ch)(v4 v5:Value)(w:World)(e:Ending)(w':World):Prop:=
  ∃ (A:Option Addr) (c:Nat) (us:List AT),e=.returned (.slice A us.length c)/\Hid (w'.ownsRow w.heap.size 93 4 (.slice A us.length c) us.length (zq us)/\AllOwn w' w.heap.size us/\us.map AT.ch=ps)/\Src w' g L r v4 v5/\Sv g w w'
theorem AllOwn.sv{w w':World}{base g:Nat}{us:List AT}(h:AllOwn w base us)(hv:Sv g w w')(hg:g < base):AllOwn w' base us:=fun t ht=>⟨(h t ht).1.sv hv hg,(h t ht).2.sv hv hg⟩
structure AtsSt (g:Nat) (L R:Ch) (v4 v5:Value) (w:World) (us:List AT) (rr:Ch) (v:Value) (wr:World):Prop where
  own:wr.ownsRow w.heap.size 93 4 v us.length (zq us)
  all:AllOwn wr w.heap.size us
  src:Src wr g L rr v4 v5
  sv:Sv g w wr
  eq1:(zE R).1.map zcJ=us.map AT.ch++ (zE rr).1.map zcJ
  eq2:(zE R).2=(zE rr).2
  bd:us.length+rr.length<=268435456
def zpZ(g:Nat)(L R:Ch)(v4 v5:Value)(w:World)(v:Value)(wr:World):Prop:=∃ us rr,AtsSt g L R v4 v5 w us rr v wr
theorem AtsSt.drewN{g:Nat}{L R:Ch}{v4 v5:Value}{w:World}{us:List AT}{rr:Ch}{v:Value}{wr:World}(h:AtsSt g L R v4 v5 w us rr v wr)(n:Nat):AtsSt g L R v4 v5 w us rr v (wr.drewN n):=
  have hb:=(Below.refl wr.heap.size wr).drewN n
  ⟨zJ h.own hb,h.all.below hb,h.src.drewN n,h.sv.drewN n,h.eq1,h.eq2,h.bd⟩
theorem AtsSt.more{g:Nat}{L R:Ch}{v4 v5:Value}{w:World}{us:List AT}{c:UInt8 × Int}{m r6:Ch}{v v':Value}{wr w5 w6:World}{t:AT}(hg:g < w.heap.size)(h:AtsSt g L R v4 v5 w us (c::m) v wr)(h62:¬ c.1=62)
    (ht:t.ch=zcJ (zW c m).1) (hto:OwnA w5 w.heap.size t) (hs:Src w5 g L r6 v4 v5) (he:r6=(zW c m).2) (hv:Sv g wr w5)
    (hgr:(w5.alloc (.cells (zb7 t).toArray 93)).grownBy w6 v.ownBlock) (ho:w6.ownsRow w.heap.size 93 4 v' (us.length+1) (zq us++ zb7 t)) :
    Src w6 g L (zW c m).2 v4 v5/\∀ w7,Src w7 g L (zo spsB (zW c m).2) v4 v5->Sv g w6 w7->AtsSt g L R v4 v5 w (us++ [t]) (zo spsB (zW c m).2) v' w7:=by
  subst he
  have hb5:=(Below.refl w5.heap.size w5).alloc (Nat.le_refl _) (.cells (zb7 t).toArray 93)
  have hO5:=zJ (Moved.own hv h.own (fun b hb e=>by have:=(h.own.lt b hb).1;omega)) hb5
  have hz:w.heap.size<=w5.heap.size:=Nat.le_trans h.sv.size hv.size
  have hbg:Below (g+1) w5 w6:=(hb5.mono (by omega)).grown hgr (by simp;omega) (fun k hk=>by have:=(hO5.lt k hk).1;omega)
  have hs6:=hs.belowG hbg
  refine⟨hs6,fun w7 hs7 hv7=>?_⟩
  have hall5:=h.all.sv hv hg
  refine⟨?_,?_,hs7,?_,?_,?_,?_⟩
  . rw[List.length_append,zdx]
    exact Moved.own hv7 ho (fun b hb e=>by have:=(ho.lt b hb).1;omega)
  . intro x hx
    rcases List.mem_append.1 hx with hx | hx
    . have h1:=((hall5 x hx).below hb5).grown hO5 (by decide) hgr
      exact⟨h1.1.sv hv7 hg,h1.2.sv hv7 hg⟩
    . obtain rfl:=List.mem_singleton.1 hx
      have h1:=(hto.below hb5).grown hO5 (by decide) hgr
      exact⟨h1.1.sv hv7 hg,h1.2.sv hv7 hg⟩
  . exact(((h.sv.trans hv).trans (Moved.of_below hb5)).grown hgr (fun k hk=>(hO5.lt k hk).1)).trans hv7
  . rw[h.eq1,zaJ h62,List.map_cons,List.map_append,List.map_singleton,ht,List.append_assoc]
    rfl
  . rw[h.eq2,zaJ h62]
  . have h1:=h.bd
    have h2:=zaI spsB (zW c m).2
    have h3:=zcu c m
    rw[List.length_cons]at h1
    rw[List.length_append,List.length_singleton]
    omega
theorem zl8(t:AT):∀ u∈zb7 t,u.oneCell'=true:=by intro u hu;revert u;simp [Value.oneCell',zb7]
theorem zf9{g:Nat}{L r:Ch}{v4 v5:Value}(w:World)(h:Src w g L r v4 v5) :
    Calls Tryz.prog 148 #[.pointer (some ⟨g,0,none⟩)] w (zl7 g L (zag ((zE (zo spsB r)).1.map zcJ)) (zE (zo spsB r)).2 v4 v5 w):=by
  obtain⟨i0,hi,hz0,hz1,hz2⟩:=info_parts ziA
  have hlt:=h.lt
  have hlen:=h.len
  have H:=Lib.hid h
  clear h
  have hR:=zaI spsB r
  go_enter Tryz.func148,Tryz.ntmps148
  go_wp2_with fail
  refine(zhd ⟨#[9,10,12,32,47]⟩ spsB H.out (by decide) zi5).mono ?_
  rintro e w1 ⟨rfl,hs1,hv1⟩
  generalize zo spsB r=R at *
  have HST:Hid (AtsSt g L R v4 v5 w [] R (.slice none 0 0) w1):=⟨World.ownsRow_nil _ _ _ _,(by intro t ht;cases ht),hs1,hv1,rfl,rfl,by show 0+R.length<=_;omega⟩
  clear hs1 hv1 H hR hlen
  go_wp2_with fail
  go_loopw [3] (zpZ g L R v4 v5 w) (fun _ wr=>zl6 L g wr)
  case atStart=>exact⟨[],R,HST.out⟩
  case round=>
    obtain⟨us,rr,hst⟩:=hrel
    have HS:=Lib.hid hst
    have hbd:=hst.bd
    have hlr:=zf8 hst.src
    obtain⟨A3,c3,rfl,_,_,_⟩:=zh hst.own
    clear hst
    have HEND:Hid (∀ W,AtsSt g L R v4 v5 w us rr (.slice A3 us.length c3) W->(zE rr).1=[]->(zE rr).2=rr->Calls Tryz.prog 131 #[.slice A3 us.length c3] W (zl7 g L (zag ((zE R).1.map zcJ)) (zE R).2 v4 v5 w)):=by
      intro W hW h1 h2
      have hz:=hW.sv.size
      refine(ziK A3 us.length c3 us W (Lies.own hW.own) hW.all.ok rfl (by omega)).mono ?_
      rintro e w' ⟨A,c,ts,rfl,ho,ha,hq,hb⟩
      refine⟨A,c,ts,rfl,⟨zI ho hz,ha.mono hz,?_⟩,?_,hW.sv.trans (Moved.of_below hb)⟩
      . rw[hq,hW.eq1,h1,List.map_nil,List.append_nil]
      . rw[hW.eq2,h2]
        exact hW.src.next hb
    cases rr with
    | nil=>
      have HM:=Lib.hid (zhc HS.out.src)
      go_wp2_with fail
      refine HM.out.mono ?_
      rintro e w2 ⟨rfl,n2,rfl⟩
      rw[show(!([]:Ch).isEmpty)=false from rfl]
      have HS2:=Lib.hid (HS.out.drewN n2)
      go_wp2_with fail
      refine(HEND.out _ HS2.out (by rw[zaM]) (by rw[zaM])).mono ?_
      rintro e w3 ⟨A,c,ts,rfl,h1,h2,h3⟩
      go_wp2_with fail
      go_ret
      exact⟨A,c,ts,rfl,h1,h2,h3⟩
    | cons c m=>
      have HM:=Lib.hid (zhc HS.out.src)
      go_wp2_with fail
      refine HM.out.mono ?_
      rintro e w2 ⟨rfl,n2,rfl⟩
      rw[show(!(c::m:Ch).isEmpty)=true from rfl]
      have HS2:=Lib.hid (HS.out.drewN n2)
      generalize wr.drewN n2=wq at *
      go_wp2_with fail
      refine(zK ⟨#[62]⟩ HS2.out.src).mono ?_
      rintro e w3 ⟨rfl,n3,rfl⟩
      have HS3:=Lib.hid (HS2.out.drewN n3)
      generalize wq.drewN n3=w4 at *
      rw[show isA (ByteArray.mk #[62]).data.toList (c::m)=(c.1 == 62)from zah 62 c m]
      by_cases h62:c.1=62
      . rw[show(c.1 == 62)=true from beq_iff_eq.2 h62]
        go_wp2_with fail
        refine(HEND.out _ HS3.out (by rw[za1 h62]) (by rw[za1 h62])).mono ?_
        rintro e w5 ⟨A,c,ts,rfl,h1,h2,h3⟩
        go_wp2_with fail
        go_ret
        exact⟨A,c,ts,rfl,h1,h2,h3⟩
      . rw[show(c.1 == 62)=false from beq_eq_false_iff_ne.2 h62]
        have HN62:=Lib.hid h62
        clear h62
        go_wp2_with fail
        refine(zhg _ HS3.out.src).mono ?_
        rintro e w5 ⟨t,rfl,ht,hs5,hv5⟩
        have hz5:=hv5.size
        have hzw:=HS3.out.sv.size
        have HT:Hid (t.ch=zcJ (zW c m).1/\OwnA w5 w.heap.size t):=⟨ht.out.1,ht.out.2.mono hzw⟩
        have HS5:=Lib.hid hs5
        have HV5:=Lib.hid hv5
        have hown5:w5.ownsRow w.heap.size 93 4 (.slice A3 us.length c3) us.length (zq us):=Moved.own hv5 HS3.out.own (fun b hb e=>by have:=(HS3.out.own.lt b hb).1;omega)
        have hul:us.length<=268435456:=by omega
        clear ht hs5 hv5 HEND HM HS2
        generalize hz:us.length=z at *
        have HZ:=Lib.hid hz
        clear hz
        go_wp2_with (at_builtin;refine wpList_append_own_at _ rfl _ _ 46 rfl w.heap.size 93 i0 _ 4 80 Tryz.underlying46 hi hz0 hz1 hz2 rfl (by decide) (.slice A3 z c3) z _ rfl (hown5.alloc _) ⟨w5.heap.size,0,none⟩ 1 1 (zb7 t) rfl rfl (zT w5 _ _) (zl8 t) (by simp only[maxLen];omega) (by omega) (by simp;omega) ?_)
        intro v' w6 hown6 hgrow _ _
        have HMORE:=Lib.hid (AtsSt.more (v':=v') (w6:=w6) hlt (by have:=HS3.out;rw[<-HZ.out];rw[<-HZ.out]at this;exact this) HN62.out HT.out.1 HT.out.2 HS5.out rfl HV5.out hgrow (by rw[HZ.out];exact hown6))
        clear hgrow hown6 hown5
        go_wp2_with fail
        refine(zhd ⟨#[9,10,12,32,47]⟩ spsB HMORE.out.1 (by decide) zi5).mono ?_
        rintro e w7 ⟨rfl,hs7,hv7⟩
        have HST7:=Lib.hid (HMORE.out.2 w7 hs7 hv7)
        have hl7:=zf8 hs7
        have hle:(zo spsB (zW c m).2).length < (c::m).length:=by
          have h2:=zaI spsB (zW c m).2
          have h3:=zcu c m
          rw[List.length_cons]
          omega
        clear hs7 hv7
        go_wp2_with fail
        go_roundw
        case rel=>exact⟨us++ [t],_,HST7.out⟩
        case measure=>rw[hl7,hlr];exact hle
structure TK where
  kind:Nat
  nm:LT
  A:Option Addr
  n:Nat
  c:Nat
  ats:List AT
  close:Bool
  tx:LT
def TK.pt(t:TK):PTok:=⟨t.kind,t.nm.ch,t.ats.map AT.ch,t.close,t.tx.ch⟩
def zbF(t:TK):List Value:=[.int .i64 (t.kind:Int),.string t.nm.s,.slice t.nm.A t.nm.n t.nm.c,.slice t.A t.n t.c,.bool t.close,.string t.tx.s,.slice t.tx.A t.tx.n t.tx.c]
def OwnT(w:World)(base:Nat)(t:TK):Prop:=OwnL w base t.nm/\w.ownsRow base 93 4 (.slice t.A t.n t.c) t.n (zq t.ats)/\t.ats.length=t.n/\AllOwn w base t.ats/\OwnL w base t.tx
theorem OwnT.sv{w w':World}{base g:Nat}{t:TK}(h:OwnT w base t)(hv:Sv g w w')(hg:g < base):OwnT w' base t:=
  ⟨h.1.sv hv hg,Moved.own hv h.2.1 (fun b hb e=>by have:=(h.2.1.lt b hb).1;omega),h.2.2.1,h.2.2.2.1.sv hv hg,h.2.2.2.2.sv hv hg⟩
theorem OwnT.below{w w':World}{base:Nat}{t:TK}(h:OwnT w base t)(hb:Below w.heap.size w w'):OwnT w' base t:=
  ⟨h.1.below hb,zJ h.2.1 hb,h.2.2.1,h.2.2.2.1.below hb,h.2.2.2.2.below hb⟩
theorem OwnT.mono{w:World}{base base':Nat}{t:TK}(h:OwnT w base t)(hb:base'<=base):OwnT w base' t:=⟨h.1.mono hb,zI h.2.1 hb,h.2.2.1,h.2.2.2.1.mono hb,h.2.2.2.2.mono hb⟩
theorem zi6:(Tryz.prog.info? 98).map (fun i=>(i.zero,i.size,i.bytes))=some (some (.agg #[.int .i64 0,.string ⟨#[]⟩,.slice none 0 0,.slice none 0 0,.bool false,.string ⟨#[]⟩,.slice none 0 0]),7,120):=by kernel_rfl
def noTK:TK:=⟨0,noLT13,none,0,0,[],false,noLT13⟩
def put7(w:World)(b:Nat)(v0 v1 v2 v3 v4 v5 v6:Value):World:=((((((w.setCell ⟨b,0,none⟩ v0).setCell ⟨b,1,none⟩ v1).setCell ⟨b,2,none⟩ v2).setCell ⟨b,3,none⟩ v3).setCell ⟨b,4,none⟩ v4).setCell ⟨b,5,none⟩ v5).setCell ⟨b,6,none⟩ v6
theorem zh6(w:World)(b:Nat)(v0 v1 v2 v3 v4 v5 v6:Value):Sv b w (put7 w b v0 v1 v2 v3 v4 v5 v6):=
  have k:∀ {V:World} (j:Nat) (v:Value),Sv b w V->Sv b w (V.setCell ⟨b,j,none⟩ v):=fun j v h=>Moved.setCell (S:=fun x=>x=b) h (p:=⟨b,j,none⟩) rfl v
  k 6 v6 (k 5 v5 (k 4 v4 (k 3 v3 (k 2 v2 (k 1 v1 (k 0 v0 (Moved.refl _ _)))))))
theorem Src.svN{w w':World}{g b:Nat}{L r:Ch}{v4 v5:Value}(h:Src w g L r v4 v5)(hv:Sv b w w')(hb:g < b):Src w' g L r v4 v5:=h.belowG (Moved.below hv (by have:=h.lt;omega) (fun k hk e=>by omega))
theorem Sv.new{g b:Nat}{w V V':World}(h:Sv g w V)(hv:Sv b V V')(hb:w.heap.size<=b):Sv g w V':=
  ⟨hv.os.trans h.os,hv.tape.trans h.tape,hv.output.trans h.output,Nat.le_trans h.size hv.size,fun k hk hs=>(hv.block k (Nat.lt_of_lt_of_le hk h.size) (fun e=>by omega)).trans (h.block k hk hs)⟩
def znN(g:Nat)(L:Ch)(q:Option (PTok × Ch))(v4 v5:Value)(w:World)(e:Ending)(w':World):Prop:=
  match q with
  | none=>e=.returned (.tuple #[.agg (zbF noTK).toArray,.bool false])/\Src w' g L [] v4 v5/\Sv g w w'
  | some (t,r)=>∃ k:TK,e=.returned (.tuple #[.agg (zbF k).toArray,.bool true])/\Hid (k.pt=t/\OwnT w' w.heap.size k)/\Src w' g L r v4 v5/\Sv g w w'
theorem zo8{L r:Ch}{i k:Nat}(h:L.drop i=r):L[i+k]?=r[k]?:=by rw[<-h,List.getElem?_drop]
theorem zl9{m:Ch}(h:(zE (zo spsB (zH endT (zo (· == 47) m.tail)))).2≠[]):tagQ m=some (if isA [47] m.tail then ⟨2,lowL (zr endT (zo (· == 47) m.tail)),[],false,[]⟩
    else ⟨1,lowL (zr endT (zo (· == 47) m.tail)),zag ((zE (zo spsB (zH endT (zo (· == 47) m.tail)))).1.map zcJ),(m[m.length - (zE (zo spsB (zH endT (zo (· == 47) m.tail)))).2.length - 1]?).map (·.1) == some 47,[]⟩,
    (zE (zo spsB (zH endT (zo (· == 47) m.tail)))).2.tail):=by unfold tagQ;rw[if_neg h]
theorem zma{m:Ch}(h:(zE (zo spsB (zH endT (zo (· == 47) m.tail)))).2=[]):tagQ m=none:=by unfold tagQ;rw[if_pos h]
theorem zh7{g:Nat}{L r:Ch}{v4 v5:Value}(w:World)(h:Src w g L r v4 v5)(hat:zaf r=true) :
    Calls Tryz.prog 108 #[.pointer (some ⟨g,0,none⟩)] w (znN g L (tagQ r) v4 v5 w):=by
  have hlt:=h.lt
  have hlen:=h.len
  have H:=Lib.hid h
  have hne:r≠[]:=by intro e;subst e;cases hat
  have hrl:0 < r.length:=List.length_pos_iff.2 hne
  clear h hat hne
  go_enter Tryz.func108,Tryz.ntmps108
  go_wp2_with fail
  generalize hw0:w.alloc (.cells #[.int .i64 0,.string ⟨#[]⟩,.slice none 0 0,.slice none 0 0,.bool false,.string ⟨#[]⟩,.slice none 0 0] 98)=w0
  have y0:Hid (Whole w0 w.heap.size 98 #[.int .i64 0,.string ⟨#[]⟩,.slice none 0 0,.slice none 0 0,.bool false,.string ⟨#[]⟩,.slice none 0 0]):=by rw[<-hw0];exact Whole.made w _ _
  have hb0:Below w.heap.size w w0:=by rw[<-hw0];exact(Below.refl _ _).alloc (Nat.le_refl _) _
  have HS0:=Lib.hid (H.out.next hb0)
  have HV0:Hid (Sv g w w0):=Moved.of_below hb0
  clear hw0 hb0
  -- <
  refine(zcD 1 HS0.out (by omega)).mono ?_
  rw[List.drop_one]
  rintro e w1 ⟨rfl,hs1,hv1⟩
  have HS1:=Lib.hid hs1
  have HV1:Hid (Sv g w w1):=HV0.out.trans hv1
  have Y1:=Lib.hid (hv1.whole y0.out (by omega))
  clear hs1 hv1 y0 HS0 HV0
  go_wp2_with fail
  -- is it an end
  refine(zK ⟨#[47]⟩ HS1.out).mono ?_
  rintro e w2 ⟨rfl,n2,rfl⟩
  rw[show isA (ByteArray.mk #[47]).data.toList r.tail=isA [47] r.tail from rfl]
  have HS2:=Lib.hid (HS1.out.drewN n2)
  have hv2:Sv g w1 (w1.drewN n2):=Moved.of_below ((Below.refl _ _).drewN n2)
  have HV2:Hid (Sv g w (w1.drewN n2)):=HV1.out.trans hv2
  have Y2:=Lib.hid (hv2.whole Y1.out (by omega))
  clear hv2 Y1 HS1 HV1
  generalize w1.drewN n2=w2 at *
  obtain⟨ie,hie⟩:∃ ie,isA [47] r.tail=ie:=⟨_,rfl⟩
  have HIE:=Lib.hid hie
  rw[hie]
  clear hie
  go_wp2_with fail
  refine(zhd ⟨#[47]⟩ (· == 47) HS2.out (by decide) zo5).mono ?_
  rintro e w3 ⟨rfl,hs3,hv3⟩
  obtain⟨R,hR⟩:∃ R,zo (· == 47) r.tail=R:=⟨_,rfl⟩
  have HR:=Lib.hid hR
  rw[hR]at hs3
  clear hR
  have HS3:=Lib.hid hs3
  have HV3:Hid (Sv g w w3):=HV2.out.trans hv3
  have Y3:=Lib.hid (hv3.whole Y2.out (by omega))
  clear hs3 hv3 Y2 HS2 HV2
  go_wp2_with fail
  -- the name
  refine(zhe ⟨#[9,10,12,32,47,62]⟩ endT HS3.out (by decide) (by decide) (zey (by decide)) zpU).mono ?_
  rintro e w4 ⟨u,rfl,hu,hs4,hv4⟩
  have HS4:=Lib.hid hs4
  have HV4:Hid (Sv g w w4):=HV3.out.trans hv4
  have Y4:=Lib.hid (hv4.whole Y3.out (by omega))
  clear hs4 hv4 Y3 HS3 HV3
  go_wp2_with fail
  refine(zg7 u w4 hu.out.2.ok).mono ?_
  rintro e w5 ⟨n,rfl,hn,hb5⟩
  have HS5:=Lib.hid (HS4.out.next hb5)
  have HV5:Hid (Sv g w w5):=HV4.out.trans (Moved.of_below hb5)
  have Y5:=Lib.hid (Y4.out.below hb5 Y4.out.lt)
  have HN5:Hid (n.ch=lowL (zr endT R)/\OwnL w5 (w.heap.size+1) n):=⟨by rw[hn.out.1,hu.out.1],hn.out.2.mono Y4.out.lt⟩
  clear hb5 hn hu Y4 HS4 HV4
  generalize hw6:w5.alloc (.cells #[.string n.s,.slice n.A n.n n.c] 24)=w6
  have YN6:Hid (Whole w6 w5.heap.size 24 #[.string n.s,.slice n.A n.n n.c]):=by rw[<-hw6];exact Whole.made _ _ _
  have hb6:Below w5.heap.size w5 w6:=by rw[<-hw6];exact(Below.refl _ _).alloc (Nat.le_refl _) _
  have HS6:=Lib.hid (HS5.out.next hb6)
  have HV6:Hid (Sv g w w6):=HV5.out.trans (Moved.of_below hb6)
  have Y6:=Lib.hid (Y5.out.below hb6 Y5.out.lt)
  have HN6:Hid (n.ch=lowL (zr endT R)/\OwnL w6 (w.heap.size+1) n):=⟨HN5.out.1,HN5.out.2.below hb6⟩
  have hz5:w.heap.size < w5.heap.size:=Y5.out.lt
  clear hb6 HN5 Y5 HS5 HV5
  go_wp2_with fail
  -- the attributes
  refine(zf9 w6 HS6.out).mono ?_
  rintro e w7 ⟨A7,c7,us,rfl,hat7,hs7,hv7⟩
  have HS7:=Lib.hid hs7
  have HV7:Hid (Sv g w w7):=HV6.out.trans hv7
  have Y7:=Lib.hid (hv7.whole Y6.out (by omega))
  have YN7:=Lib.hid (hv7.whole YN6.out (by omega))
  have HN7:Hid (n.ch=lowL (zr endT R)/\OwnL w7 (w.heap.size+1) n):=⟨HN6.out.1,HN6.out.2.sv hv7 (by omega)⟩
  have HA7:Hid (us.map AT.ch=zag ((zE (zo spsB (zH endT R))).1.map zcJ)/\w7.ownsRow (w.heap.size+1) 93 4 (.slice A7 us.length c7) us.length (zq us)/\AllOwn w7 (w.heap.size+1) us):=⟨hat7.out.2.2,zI hat7.out.1 (by have:=YN6.out.lt;omega),hat7.out.2.1.mono (by have:=YN6.out.lt;omega)⟩
  have HQL:=zgU (zo spsB (zH endT R))
  have hol:=zaI spsB (zH endT R)
  have hfl:=zdj endT R
  have hRl:R.length<=r.length - 1:=by rw[<-HR.out];have:=zaI (· == 47) r.tail;rw[List.length_tail]at this;exact this
  clear hs7 hv7 hat7 Y6 YN6 HN6 HS6 HV6
  go_wp2_with fail
  refine(zhc HS7.out).mono ?_
  rintro e w8 ⟨rfl,n8,rfl⟩
  have HS8:=Lib.hid (HS7.out.drewN n8)
  have hv8:Sv g w7 (w7.drewN n8):=Moved.of_below ((Below.refl _ _).drewN n8)
  have HV8:Hid (Sv g w (w7.drewN n8)):=HV7.out.trans hv8
  have Y8:=Lib.hid (hv8.whole Y7.out (by omega))
  have YN8:=Lib.hid (hv8.whole YN7.out (by omega))
  have HN8:Hid (n.ch=lowL (zr endT R)/\OwnL (w7.drewN n8) (w.heap.size+1) n):=⟨HN7.out.1,HN7.out.2.sv hv8 (by omega)⟩
  have HA8:Hid (us.map AT.ch=zag ((zE (zo spsB (zH endT R))).1.map zcJ)/\(w7.drewN n8).ownsRow (w.heap.size+1) 93 4 (.slice A7 us.length c7) us.length (zq us)/\AllOwn (w7.drewN n8) (w.heap.size+1) us):=⟨HA7.out.1,Moved.own hv8 HA7.out.2.1 (fun b hb e=>by have:=(HA7.out.2.1.lt b hb).1;omega),HA7.out.2.2.sv hv8 (by omega)⟩
  clear hv8 Y7 YN7 HN7 HA7 HS7 HV7
  generalize w7.drewN n8=w8 at *
  have HTN:Hid ((zE (zo spsB (zH endT R))).2=[]->tagQ r=none):=fun e=>zma (by rw[HR.out];exact e)
  have HTS:Hid ((zE (zo spsB (zH endT R))).2≠[]->tagQ r=_):=fun e=>zl9 (by rw[HR.out];exact e)
  rw[HR.out,HIE.out]at HTS
  generalize zE (zo spsB (zH endT R))=q at *
  obtain⟨q1,q2⟩:=q
  simp only at HQL HS8 HA8 HTN HTS
  cases q2 with
  | nil=>
    have HT:=Lib.hid (HTN.out rfl)
    rw[show(!([]:Ch).isEmpty)=false from rfl]
    have hy:=Y8.out
    have d0:=hy.at_ 0
    have d1:=hy.at_ 1
    have d2:=hy.at_ 2
    have d3:=hy.at_ 3
    have d4:=hy.at_ 4
    have d5:=hy.at_ 5
    have d6:=hy.at_ 6
    have k0:=hy.free 0
    have k1:=hy.free 1
    have k2:=hy.free 2
    have k3:=hy.free 3
    have k4:=hy.free 4
    have k5:=hy.free 5
    have k6:=hy.free 6
    have hsv:=zh6 w8 w.heap.size (.int .i64 0) (.string ⟨#[]⟩) (.slice none 0 0) (.slice none 0 0) (.bool false) (.string ⟨#[]⟩) (.slice none 0 0)
    have HE:Hid (Src (put7 w8 w.heap.size (.int .i64 0) (.string ⟨#[]⟩) (.slice none 0 0) (.slice none 0 0) (.bool false) (.string ⟨#[]⟩) (.slice none 0 0)) g L [] v4 v5/\Sv g w (put7 w8 w.heap.size (.int .i64 0) (.string ⟨#[]⟩) (.slice none 0 0) (.slice none 0 0) (.bool false) (.string ⟨#[]⟩) (.slice none 0 0))):=⟨HS8.out.svN hsv hlt,HV8.out.new hsv (Nat.le_refl _)⟩
    clear hsv hy HTN HTS HQL
    go_wp2_with fail
    refine bodyPost_ret (v:=.tuple #[.agg (zbF noTK).toArray,.bool false]) ?_ rfl ?_
    . simp [results,Tryz.results108,go_sem,d0,d1,d2,d3,d4,d5,d6,zbF,noTK,noLT13]
    . rw[HT.out]
      exact⟨rfl,HE.out⟩
  | cons c m=>
    have HT:=Lib.hid (HTS.out (by simp))
    rw[show(!(c::m:Ch).isEmpty)=true from rfl]
    obtain⟨A9,n9,c9,k9,hW9⟩:=HS8.out.cells
    have c0:w8.cell? ⟨g,0,none⟩=some (.string (zi L)):=hW9.at_ 0
    have c1:w8.cell? ⟨g,1,none⟩=some (.int .i64 ((L.length - (c::m).length:Nat):Int)):=hW9.at_ 1
    have hcm:(c::m).length<=r.length - 1:=by have:=HQL.1;omega
    obtain⟨k,hk⟩:∃ k,L.length - (c::m).length=k+1:=⟨L.length - (c::m).length - 1,by omega⟩
    rw[hk]at c1
    have hkL:k < L.length:=by omega
    have hsz:k < (zi L).size:=by rw[zG];exact hkL
    obtain⟨x,hx⟩:∃ x,(zi L)[k]'hsz=x:=⟨_,rfl⟩
    have HX:Hid ((r[r.length - (c::m).length - 1]?).map (·.1)=some x):=by
      obtain⟨i,hi,hsm⟩:=H.out
      have hil:=hsm.le
      have e1:r.length=L.length - i:=by rw[<-hi,List.length_drop]
      have e2:i+(r.length - (c::m).length - 1)=k:=by omega
      show _=_
      rw[<-zo8 hi,e2]
      have e3:(zi L).data.toList[k]?=some ((zi L)[k]'hsz):=Lib.data_getElem? _ k hsz
      rw[zX,List.getElem?_map,hx]at e3
      exact e3
    have hw1:IntKind.i64.wrap (((k+1:Nat):Int) - 1)=(k:Int):=by rw[show((k+1:Nat):Int) - 1=(k:Int) by omega];exact IntWalk.i64_in _ (by omega)
    have hk0:(0:Int)<=(k:Int):=Int.natCast_nonneg _
    have hk1:(k:Int) < ((zi L).size:Int):=by omega
    have hbq:((x.toNat:Int) == 47)=(x == 47):=zmQ x 47
    generalize ((k+1:Nat):Int)=z1 at *
    generalize zi L=s at *
    clear HTN HTS HQL hW9 hk hcm hol hfl hRl H
    go_wp2_with fail
    go_quiet (fail)
    have hv9:Sv g w8 (w8.drewN nq):=Moved.of_below ((Below.refl _ _).drewN nq)
    have HS9:=Lib.hid (HS8.out.drewN nq)
    have HV9:Hid (Sv g w (w8.drewN nq)):=HV8.out.trans hv9
    have Y9:=Lib.hid (hv9.whole Y8.out (by omega))
    have YN9:=Lib.hid (hv9.whole YN8.out (by omega))
    have HN9:Hid (n.ch=lowL (zr endT R)/\OwnL (w8.drewN nq) (w.heap.size+1) n):=⟨HN8.out.1,HN8.out.2.sv hv9 (by omega)⟩
    have HA9:Hid (us.map AT.ch=zag (q1.map zcJ)/\(w8.drewN nq).ownsRow (w.heap.size+1) 93 4 (.slice A7 us.length c7) us.length (zq us)/\AllOwn (w8.drewN nq) (w.heap.size+1) us):=⟨HA8.out.1,Moved.own hv9 HA8.out.2.1 (fun b hb e=>by have:=(HA8.out.2.1.lt b hb).1;omega),HA8.out.2.2.sv hv9 (by omega)⟩
    clear hv9 Y8 YN8 HN8 HA8 HS8 HV8 c0 c1
    generalize w8.drewN nq=w9 at *
    go_wp2_with fail
    refine(zcD 1 HS9.out (by omega)).mono ?_
    rw[List.drop_succ_cons,List.drop_zero]
    rintro e w11 ⟨rfl,hs11,hv11⟩
    have HS11:=Lib.hid hs11
    have HV11:Hid (Sv g w w11):=HV9.out.trans hv11
    have Y11:=Lib.hid (hv11.whole Y9.out (by omega))
    have YN11:=Lib.hid (hv11.whole YN9.out (by omega))
    have HN11:Hid (n.ch=lowL (zr endT R)/\OwnL w11 (w.heap.size+1) n):=⟨HN9.out.1,HN9.out.2.sv hv11 (by omega)⟩
    have HA11:Hid (us.map AT.ch=zag (q1.map zcJ)/\w11.ownsRow (w.heap.size+1) 93 4 (.slice A7 us.length c7) us.length (zq us)/\AllOwn w11 (w.heap.size+1) us):=⟨HA9.out.1,Moved.own hv11 HA9.out.2.1 (fun b hb e=>by have:=(HA9.out.2.1.lt b hb).1;omega),HA9.out.2.2.sv hv11 (by omega)⟩
    clear hs11 hv11 Y9 YN9 HN9 HA9 HS9 HV9
    cases ie with
    | true=>
      have hyt:=Y11.out
      have hyn:=YN11.out
      have p0:=hyn.at_ 0
      have p1:=hyn.at_ 1
      have d0:=hyt.at_ 0
      have d1:=hyt.at_ 1
      have d2:=hyt.at_ 2
      have d3:=hyt.at_ 3
      have d4:=hyt.at_ 4
      have d5:=hyt.at_ 5
      have d6:=hyt.at_ 6
      have k0:=hyt.free 0
      have k1:=hyt.free 1
      have k2:=hyt.free 2
      have k3:=hyt.free 3
      have k4:=hyt.free 4
      have k5:=hyt.free 5
      have k6:=hyt.free 6
      have hsv:=zh6 w11 w.heap.size (.int .i64 2) (.string n.s) (.slice n.A n.n n.c) (.slice none 0 0) (.bool false) (.string ⟨#[]⟩) (.slice none 0 0)
      have HE:Hid (Src (put7 w11 w.heap.size (.int .i64 2) (.string n.s) (.slice n.A n.n n.c) (.slice none 0 0) (.bool false) (.string ⟨#[]⟩) (.slice none 0 0)) g L m v4 v5/\Sv g w (put7 w11 w.heap.size (.int .i64 2) (.string n.s) (.slice n.A n.n n.c) (.slice none 0 0) (.bool false) (.string ⟨#[]⟩) (.slice none 0 0))/\OwnT (put7 w11 w.heap.size (.int .i64 2) (.string n.s) (.slice n.A n.n n.c) (.slice none 0 0) (.bool false) (.string ⟨#[]⟩) (.slice none 0 0)) w.heap.size ⟨2,n,none,0,0,[],false,noLT13⟩):=⟨HS11.out.svN hsv hlt,HV11.out.new hsv (Nat.le_refl _),OwnT.mono (OwnT.sv (base:=w.heap.size+1) ⟨HN11.out.2,World.ownsRow_nil _ _ _ _,rfl,(by intro t ht;cases ht),zbQ _ _⟩ hsv (Nat.lt_succ_self _)) (Nat.le_succ _)⟩
      clear hsv hyt hyn Y11 YN11
      go_wp2_with fail
      refine bodyPost_ret (v:=.tuple #[.agg (zbF ⟨2,n,none,0,0,[],false,noLT13⟩).toArray,.bool true]) ?_ rfl ?_
      . simp [results,Tryz.results108,go_sem,d0,d1,d2,d3,d4,d5,d6,zbF,noLT13]
      . rw[HT.out]
        exact⟨⟨2,n,none,0,0,[],false,noLT13⟩,rfl,⟨by show PTok.mk 2 n.ch [] false noLT13.ch=_;rw[HN11.out.1,zcm];rfl,HE.out.2.2⟩,HE.out.1,HE.out.2.1⟩
    | false=>
      have hyt:=Y11.out
      have hyn:=YN11.out
      have p0:=hyn.at_ 0
      have p1:=hyn.at_ 1
      have d0:=hyt.at_ 0
      have d1:=hyt.at_ 1
      have d2:=hyt.at_ 2
      have d3:=hyt.at_ 3
      have d4:=hyt.at_ 4
      have d5:=hyt.at_ 5
      have d6:=hyt.at_ 6
      have k0:=hyt.free 0
      have k1:=hyt.free 1
      have k2:=hyt.free 2
      have k3:=hyt.free 3
      have k4:=hyt.free 4
      have k5:=hyt.free 5
      have k6:=hyt.free 6
      have hsv:=zh6 w11 w.heap.size (.int .i64 1) (.string n.s) (.slice n.A n.n n.c) (.slice A7 us.length c7) (.bool (x == 47)) (.string ⟨#[]⟩) (.slice none 0 0)
      have HE:Hid (Src (put7 w11 w.heap.size (.int .i64 1) (.string n.s) (.slice n.A n.n n.c) (.slice A7 us.length c7) (.bool (x == 47)) (.string ⟨#[]⟩) (.slice none 0 0)) g L m v4 v5/\Sv g w (put7 w11 w.heap.size (.int .i64 1) (.string n.s) (.slice n.A n.n n.c) (.slice A7 us.length c7) (.bool (x == 47)) (.string ⟨#[]⟩) (.slice none 0 0))/\OwnT (put7 w11 w.heap.size (.int .i64 1) (.string n.s) (.slice n.A n.n n.c) (.slice A7 us.length c7) (.bool (x == 47)) (.string ⟨#[]⟩) (.slice none 0 0)) w.heap.size ⟨1,n,A7,us.length,c7,us,(x == 47),noLT13⟩):=⟨HS11.out.svN hsv hlt,HV11.out.new hsv (Nat.le_refl _),OwnT.mono (OwnT.sv (base:=w.heap.size+1) ⟨HN11.out.2,HA11.out.2.1,rfl,HA11.out.2.2,zbQ _ _⟩ hsv (Nat.lt_succ_self _)) (Nat.le_succ _)⟩
      clear hsv hyt hyn Y11 YN11
      go_wp2_with fail
      refine bodyPost_ret (v:=.tuple #[.agg (zbF ⟨1,n,A7,us.length,c7,us,(x == 47),noLT13⟩).toArray,.bool true]) ?_ rfl ?_
      . simp [results,Tryz.results108,go_sem,d0,d1,d2,d3,d4,d5,d6,zbF,noLT13]
      . rw[HT.out]
        exact⟨⟨1,n,A7,us.length,c7,us,(x == 47),noLT13⟩,rfl,⟨by show PTok.mk 1 n.ch (us.map AT.ch) (x == 47) noLT13.ch=_;rw[HN11.out.1,zcm,HA11.out.1,HX.out];rfl,HE.out.2.2⟩,HE.out.1,HE.out.2.1⟩
theorem zbv{W:World}{g:Nat}{t:TypeId}{cs:Array Value}{l:List Value}(h:Whole W g t cs)(hl:cs.toList=l):Lies W W.heap.size (some ⟨g,0,none⟩) l:=by
  subst hl
  intro j x hx
  refine⟨_,rfl,h.lt,?_⟩
  have e:((⟨g,0,none⟩:Addr).add j)=⟨g,j,none⟩:=by unfold Addr.add;split<;>simp_all
  rw[e,h.at_]
  simpa using hx
def zb4(ts:List TK):List Value:=ts.flatMap zbF
theorem zhh(ts:List TK)(t:TK):zb4 (ts++ [t])=zb4 ts++ zbF t:=by unfold zb4;rw[List.flatMap_append];simp
theorem zeP(us:List LT)(u:LT):zu (us++ [u])=zu us++ [.string u.s,.slice u.A u.n u.c]:=by simp [zu]
theorem zhi(t:TK):∀ u∈zbF t,u.oneCell'=true:=by intro u hu;revert u;simp [Value.oneCell',zbF]
structure RdV (w:World) (g:Nat) (L rest:Ch) (ts:List TK) (us:List LT) (vt vp:Value):Prop where
  src:Src w g L rest vt vp
  tok:w.ownsRow (g+1) 98 7 vt ts.length (zb4 ts)
  tall:∀ t∈ts,OwnT w (g+1) t
  pcs:w.ownsRow (g+1) 24 2 vp us.length (zu us)
  pall:∀ u∈us,OwnL w (g+1) u
theorem zmb{w w':World}{base1 base2 n1 n2 s1 s2:Nat}{e1 e2:TypeId}{v1 v2:Value}{x1 x2:List Value}(h1:w.ownsRow base1 e1 s1 v1 n1 x1)(h2:w.ownsRow base2 e2 s2 v2 n2 x2)(he:e1≠e2)(hg:w.grownBy w' v2.ownBlock):w'.ownsRow base1 e1 s1 v1 n1 x1:=
  zax h1 fun g hgb=>by
    obtain⟨c1,hc1⟩:=zaq h1 hgb
    refine hg.block g (h1.lt g hgb).2 fun e=>?_
    obtain⟨c2,hc2⟩:=zaq h2 e.symm
    rw[hc1]at hc2
    injection hc2 with hc2
    injection hc2 with _ h _
    exact he h
theorem OwnL.grown13{w w':World}{base base' n s:Nat}{e:TypeId}{v:Value}{xs:List Value}{t:LT}(h:OwnL w base t)(ho:w.ownsRow base' e s v n xs)(he:e≠53)(hg:w.grownBy w' v.ownBlock):OwnL w' base t:=
  h.keep fun g _ _ hc=>hg.block g (Array.getElem?_eq_some_iff.1 hc).1 (zeY ho he hc)
theorem OwnT.grown13{w w':World}{base base' n s:Nat}{e:TypeId}{v:Value}{xs:List Value}{t:TK}(h:OwnT w base t)(ho:w.ownsRow base' e s v n xs)(he:e≠53)(he2:93≠e)(hg:w.grownBy w' v.ownBlock):OwnT w' base t:=
  ⟨h.1.grown13 ho he hg,zmb h.2.1 ho he2 hg,h.2.2.1,fun x hx=>(h.2.2.2.1 x hx).grown ho he hg,h.2.2.2.2.grown13 ho he hg⟩
abbrev SG (g:Nat) (v:Value):Nat->Prop:=fun b=>b=g\/v.ownBlock=some b
theorem Src.put4{w:World}{g:Nat}{L r:Ch}{v4 v5:Value}(h:Src w g L r v4 v5)(v:Value):Src (w.setCell ⟨g,4,none⟩ v) g L r v v5:=by
  obtain⟨i,e,h⟩:=h
  obtain⟨A,n,c,k,hW,hL,hr⟩:=h.cells
  exact⟨i,e,⟨A,n,c,k,hW.put 4 _,hL.below ((Below.refl g w).setCell (Nat.le_refl _) _),hr⟩,h.le,h.inr,h.len⟩
theorem Src.put5{w:World}{g:Nat}{L r:Ch}{v4 v5:Value}(h:Src w g L r v4 v5)(v:Value):Src (w.setCell ⟨g,5,none⟩ v) g L r v4 v:=by
  obtain⟨i,e,h⟩:=h
  obtain⟨A,n,c,k,hW,hL,hr⟩:=h.cells
  exact⟨i,e,⟨A,n,c,k,hW.put 5 _,hL.below ((Below.refl g w).setCell (Nat.le_refl _) _),hr⟩,h.le,h.inr,h.len⟩
theorem OwnL.putG{w:World}{base g j:Nat}{u:LT}(h:OwnL w base u)(hg:g < base)(v:Value):OwnL (w.setCell ⟨g,j,none⟩ v) base u:=h.sv (g:=g) (Moved.setCell (S:=fun b=>b=g) (Moved.refl _ _) (p:=⟨g,j,none⟩) rfl _) hg
theorem OwnT.putG{w:World}{base g j:Nat}{t:TK}(h:OwnT w base t)(hg:g < base)(v:Value):OwnT (w.setCell ⟨g,j,none⟩ v) base t:=h.sv (g:=g) (Moved.setCell (S:=fun b=>b=g) (Moved.refl _ _) (p:=⟨g,j,none⟩) rfl _) hg
theorem zc2{w:World}{base n s g j:Nat}{e:TypeId}{v:Value}{xs:List Value}(h:w.ownsRow base e s v n xs)(hg:g < base)(u:Value):(w.setCell ⟨g,j,none⟩ u).ownsRow base e s v n xs:=zS h _ (fun e=>by have:=(h.lt _ e).1;simp at this;omega) _
section
variable {w w' w2 : World} {g : Nat} {L rest : Ch} {ts : List TK} {us : List LT} {vt vp : Value}
theorem RdV.lt(h:RdV w g L rest ts us vt vp):g < w.heap.size:=h.src.lt
theorem RdV.sv{rest':Ch}(h:RdV w g L rest ts us vt vp)(hs:Src w' g L rest' vt vp)(hv:Sv g w w'):RdV w' g L rest' ts us vt vp:=
  ⟨hs,Moved.own hv h.tok (fun b hb e=>by have:=(h.tok.lt b hb).1;omega),fun t ht=>(h.tall t ht).sv hv (Nat.lt_succ_self _),Moved.own hv h.pcs (fun b hb e=>by have:=(h.pcs.lt b hb).1;omega),fun u hu=>(h.pall u hu).sv hv (Nat.lt_succ_self _)⟩
theorem RdV.below(h:RdV w g L rest ts us vt vp)(hb:Below w.heap.size w w'):RdV w' g L rest ts us vt vp:=h.sv (h.src.next hb) (Moved.of_below hb)
theorem RdV.drewN(h:RdV w g L rest ts us vt vp)(n:Nat):RdV (w.drewN n) g L rest ts us vt vp:=h.below ((Below.refl _ _).drewN n)
theorem RdV.drew(h:RdV w g L rest ts us vt vp):RdV w.drew g L rest ts us vt vp:=h.below (Below.drew (Below.refl _ _))
theorem RdV.at4(h:RdV w g L rest ts us vt vp):w.cell? ⟨g,4,none⟩=some vt:=by obtain⟨A,n,c,k,hW⟩:=h.src.cells;exact hW.at_ 4
theorem RdV.at5(h:RdV w g L rest ts us vt vp):w.cell? ⟨g,5,none⟩=some vp:=by obtain⟨A,n,c,k,hW⟩:=h.src.cells;exact hW.at_ 5
theorem RdV.free(h:RdV w g L rest ts us vt vp)(j:Nat):w.frozen? ⟨g,j,none⟩=false:=by obtain⟨A,n,c,k,hW⟩:=h.src.cells;exact hW.free j
theorem zaw{n s:Nat}{e:TypeId}{v:Value}{xs:List Value}(ho:w.ownsRow (g+1) e s v n xs)(hg:w.grownBy w2 v.ownBlock)(hlt:g < w.heap.size):Below (g+1) w w2:=
  (Below.refl _ _).grown hg (by omega) (fun k hk=>(ho.lt k hk).1)
theorem RdV.tokMore{t:TK}{v':Value}(h:RdV w g L rest ts us vt vp)(ht:OwnT w (g+1) t)(hgr:(w.alloc (.cells (zbF t).toArray 98)).grownBy w2 vt.ownBlock)(ho:w2.ownsRow (g+1) 98 7 v' (ts.length+1) (zb4 ts++ zbF t)) :
    RdV (w2.setCell ⟨g,4,none⟩ v') g L rest (ts++ [t]) us v' vp/\Moved (SG g vt) w (w2.setCell ⟨g,4,none⟩ v'):=by
  have hlt:=h.lt
  have hb:=(Below.refl w.heap.size w).alloc (Nat.le_refl _) (.cells (zbF t).toArray 98)
  have h1:=h.below hb
  have hbg:=zaw h1.tok hgr (by simp;omega)
  refine⟨⟨(h1.src.belowG hbg).put4 v',?_,?_,?_,?_⟩,?_⟩
  . rw[List.length_append,zhh]
    exact zc2 ho (Nat.lt_succ_self _) _
  . intro x hx
    rcases List.mem_append.1 hx with hx | hx
    . exact((h1.tall x hx).grown13 h1.tok (by decide) (by decide) hgr).putG (Nat.lt_succ_self _) _
    . obtain rfl:=List.mem_singleton.1 hx
      exact((ht.below hb).grown13 h1.tok (by decide) (by decide) hgr).putG (Nat.lt_succ_self _) _
  . exact zc2 (zmb h1.pcs h1.tok (by decide) hgr) (Nat.lt_succ_self _) _
  . intro u hu
    exact((h1.pall u hu).grown13 h1.tok (by decide) hgr).putG (Nat.lt_succ_self _) _
  . have hm:Moved (SG g vt) w w2:=⟨hgr.os.trans hb.os,hgr.tape.trans hb.tape,hgr.output.trans hb.output,Nat.le_trans hb.size hgr.size,fun k hk hs=>(hgr.block k (Nat.lt_of_lt_of_le hk hb.size) (fun e=>hs (.inr e.symm))).trans (hb.block k hk)⟩
    exact Moved.setCell (S:=SG g vt) hm (p:=⟨g,4,none⟩) (.inl rfl) _
theorem RdV.pcMore{u:LT}{v':Value}(h:RdV w g L rest ts us vt vp)(hu:OwnL w (g+1) u)(hgr:(w.alloc (.cells #[.string u.s,.slice u.A u.n u.c] 24)).grownBy w2 vp.ownBlock)(ho:w2.ownsRow (g+1) 24 2 v' (us.length+1) (zu us++ [.string u.s,.slice u.A u.n u.c])) :
    RdV (w2.setCell ⟨g,5,none⟩ v') g L rest ts (us++ [u]) vt v':=by
  have hlt:=h.lt
  have hb:=(Below.refl w.heap.size w).alloc (Nat.le_refl _) (.cells #[.string u.s,.slice u.A u.n u.c] 24)
  have h1:=h.below hb
  have hbg:=zaw h1.pcs hgr (by simp;omega)
  refine⟨(h1.src.belowG hbg).put5 v',?_,?_,?_,?_⟩
  . exact zc2 (zmb h1.tok h1.pcs (by decide) hgr) (Nat.lt_succ_self _) _
  . intro x hx
    exact((h1.tall x hx).grown13 h1.pcs (by decide) (by decide) hgr).putG (Nat.lt_succ_self _) _
  . rw[List.length_append,zeP]
    exact zc2 ho (Nat.lt_succ_self _) _
  . intro x hx
    rcases List.mem_append.1 hx with hx | hx
    . exact((h1.pall x hx).grown13 h1.pcs (by decide) hgr).putG (Nat.lt_succ_self _) _
    . obtain rfl:=List.mem_singleton.1 hx
      exact((hu.below hb).grown13 h1.pcs (by decide) hgr).putG (Nat.lt_succ_self _) _
theorem RdV.pcNone(h:RdV w g L rest ts us vt vp):RdV (w.setCell ⟨g,5,none⟩ (.slice none 0 0)) g L rest ts [] vt (.slice none 0 0):=
  ⟨h.src.put5 _,zc2 h.tok (Nat.lt_succ_self _) _,fun t ht=>(h.tall t ht).putG (Nat.lt_succ_self _) _,World.ownsRow_nil _ _ _ _,fun u hu=>by cases hu⟩
end
def zp0(w:World)(vt vt':Value):Prop:=vt'.ownBlock=vt.ownBlock\/∀ b,vt'.ownBlock=some b->w.heap.size<=b
theorem zmc(u:LT)(l:Ch)(h:u.ch=l):(TK.mk 3 noLT13 none 0 0 [] false u).pt=⟨3,[],[],false,l⟩:=by show PTok.mk 3 noLT13.ch [] false u.ch=_;rw[h,zcm]
theorem zeB{g:Nat}{L rest:Ch}{ts:List TK}{us:List LT}{vt vp:Value}(w:World)(h:RdV w g L rest ts us vt vp)(hts:ts.length<=1073741824)(hus:us.length<=1073741824)(hz:(zY us).length<=268435456) :
    Calls Tryz.prog 36 #[.pointer (some ⟨g,0,none⟩)] w fun e w'=>e=.returned (.tuple #[])/\∃ ts' vt' vp',RdV w' g L rest ts' [] vt' vp'/\ts'.map TK.pt=zP (ts.map TK.pt) (us.map LT.ch)/\Moved (SG g vt) w w'/\zp0 w vt vt'/\ts'.length<=ts.length+1:=by
  obtain⟨i0,hi,hz0,hz1,hz2⟩:=info_parts zi6
  have hlt:=h.lt
  have H:=Lib.hid h
  obtain⟨At,ct,rfl,_,_,_⟩:=zh h.tok
  obtain⟨Ap,cp,rfl,_,_,_⟩:=zh h.pcs
  have c4:=h.at4
  have c5:=h.at5
  have f4:=h.free 4
  have f5:=h.free 5
  have HCAT:Hid (∀ V,Below w.heap.size w V->Calls Tryz.prog 54 #[.slice Ap us.length cp] V (zfV (zY us) V)):=fun V hb=>
    have h1:=h.below hb
    zg6 us Ap us.length cp V (Lies.own h1.pcs) rfl (by omega) (fun u hu=>(h1.pall u hu).ok) (by omega)
  have HFL:Hid (us≠[]->zP (ts.map TK.pt) (us.map LT.ch)=ts.map TK.pt++ [⟨3,[],[],false,zY us⟩]):=fun he=>by
    unfold zP
    rw[if_neg (by simpa using he),zdF]
  have HF0:Hid (us=[]->zP (ts.map TK.pt) (us.map LT.ch)=ts.map TK.pt):=fun he=>by subst he;rfl
  clear h hz
  by_cases hu0:us.length=0
  . have he:us=[]:=List.eq_nil_of_length_eq_zero hu0
    subst he
    have HF:=Lib.hid (HF0.out rfl)
    clear HCAT HFL HF0 hu0
    go_enter Tryz.func36,Tryz.ntmps36
    go_wp2_with fail
    go_end0
    exact⟨rfl,ts,_,_,H.out,HF.out.symm,Moved.refl _ _,Or.inl rfl,Nat.le_succ _⟩
  . have he:us≠[]:=fun e=>hu0 (by rw[e];rfl)
    have HF:=Lib.hid (HFL.out he)
    have hup:(0:Int) < (us.length:Int):=by omega
    clear he HFL HF0 hu0
    generalize hzu:us.length=z at *
    go_enter Tryz.func36,Tryz.ntmps36
    go_wp2_with fail
    have hS:w.drew.cell? ⟨g,4,none⟩=some (.slice At ts.length ct)/\w.drew.cell? ⟨g,5,none⟩=some (.slice Ap z cp):=⟨c4,c5⟩
    refine zad (S:=(fun V=>V.cell? ⟨g,4,none⟩=some (.slice At ts.length ct)/\V.cell? ⟨g,5,none⟩=some (.slice Ap z cp))) (Z:=(fun i=>decide (13<=i))) (by kernel_rfl) ?_
    refine' zb (i:=0) ?i1 (by kernel_rfl) (by kernel_rfl) (by kernel_rfl) (by kernel_rfl) ?q1 ?y1 hS ?r1
    case i1=>simp only[zlD,zlE];rfl
    case q1=>exact fun _ _ _ h=>h
    case y1=>
      refine Or.inl ⟨by rfl,?_⟩
      intro wq hq
      try dsimp only at hq
      try obtain⟨hq0,hq1⟩:=hq
      go_simp
      try with_reducible rfl
    try simp only[Act.put,zlA,zlB,zlC]
    refine' zb (i:=1) ?i2 (by kernel_rfl) (by kernel_rfl) (by kernel_rfl) (by kernel_rfl) ?q2 ?y2 hS ?r2
    case i2=>simp only[zlD,zlF,zlE];rfl
    case q2=>exact fun _ _ _ h=>h
    case y2=>
      refine Or.inl ⟨by rfl,?_⟩
      intro wq hq
      try dsimp only at hq
      try obtain⟨hq0,hq1⟩:=hq
      go_simp
      try with_reducible rfl
    try simp only[Act.put,zlA,zlB,zlC]
    refine' zb (i:=2) ?i3 (by kernel_rfl) (by kernel_rfl) (by kernel_rfl) (by kernel_rfl) ?q3 ?y3 hS ?r3
    case i3=>simp only[zlD,zlF,zlE];rfl
    case q3=>exact fun _ _ _ h=>h
    case y3=>
      refine Or.inl ⟨by rfl,?_⟩
      intro wq hq
      try dsimp only at hq
      try obtain⟨hq0,hq1⟩:=hq
      go_simp
      try with_reducible rfl
    try simp only[Act.put,zlA,zlB,zlC]
    refine' zb (i:=3) ?i4 (by kernel_rfl) (by kernel_rfl) (by kernel_rfl) (by kernel_rfl) ?q4 ?y4 hS ?r4
    case i4=>simp only[zlD,zlF,zlE];rfl
    case q4=>exact fun _ _ _ h=>h
    case y4=>
      refine Or.inl ⟨by rfl,?_⟩
      intro wq hq
      try dsimp only at hq
      try obtain⟨hq0,hq1⟩:=hq
      go_simp
      try with_reducible rfl
    try simp only[Act.put,zlA,zlB,zlC]
    refine' zb (i:=4) ?i5 (by kernel_rfl) (by kernel_rfl) (by kernel_rfl) (by kernel_rfl) ?q5 ?y5 hS ?r5
    case i5=>simp only[zlD,zlF,zlE];rfl
    case q5=>exact fun _ _ _ h=>h
    case y5=>
      refine Or.inl ⟨by rfl,?_⟩
      intro wq hq
      try dsimp only at hq
      try obtain⟨hq0,hq1⟩:=hq
      go_simp
      try with_reducible rfl
    try simp only[Act.put,zlA,zlB,zlC]
    refine' zb (i:=5) ?i6 (by kernel_rfl) (by kernel_rfl) (by kernel_rfl) (by kernel_rfl) ?q6 ?y6 hS ?r6
    case i6=>simp only[zlD,zlF,zlE];rfl
    case q6=>exact fun _ _ _ h=>h
    case y6=>
      refine Or.inl ⟨by rfl,?_⟩
      intro wq hq
      try dsimp only at hq
      try obtain⟨hq0,hq1⟩:=hq
      go_simp
      try with_reducible rfl
    try simp only[Act.put,zlA,zlB,zlC]
    refine' zb (i:=6) ?i7 (by kernel_rfl) (by kernel_rfl) (by kernel_rfl) (by kernel_rfl) ?q7 ?y7 hS ?r7
    case i7=>simp only[zlD,zlF,zlE];rfl
    case q7=>exact fun _ _ _ h=>h
    case y7=>
      refine Or.inl ⟨by rfl,?_⟩
      intro wq hq
      try dsimp only at hq
      try obtain⟨hq0,hq1⟩:=hq
      go_simp
      try with_reducible rfl
    try simp only[Act.put,zlA,zlB,zlC]
    refine' zb (i:=7) ?i8 (by kernel_rfl) (by kernel_rfl) (by kernel_rfl) (by kernel_rfl) ?q8 ?y8 hS ?r8
    case i8=>simp only[zlD,zlF,zlE];rfl
    case q8=>exact fun _ _ _ h=>h
    case y8=>
      refine Or.inl ⟨by rfl,?_⟩
      intro wq hq
      try dsimp only at hq
      try obtain⟨hq0,hq1⟩:=hq
      go_simp
      try with_reducible rfl
    try simp only[Act.put,zlA,zlB,zlC]
    refine' zb (i:=8) ?i9 (by kernel_rfl) (by kernel_rfl) (by kernel_rfl) (by kernel_rfl) ?q9 ?y9 hS ?r9
    case i9=>simp only[zlD,zlF,zlE];rfl
    case q9=>exact fun _ _ _ h=>h
    case y9=>
      refine Or.inl ⟨by rfl,?_⟩
      intro wq hq
      try dsimp only at hq
      try obtain⟨hq0,hq1⟩:=hq
      go_simp
      try with_reducible rfl
    try simp only[Act.put,zlA,zlB,zlC]
    refine za (rs:=[9]) (by kernel_rfl) (by simp) ?_
    refine' ReadyL.cons ?o10 (fun K hK=>?s10) ReadyL.nil
    case o10=>simp only[zlD,zlF,zlE];rfl
    go_simp
    refine(HCAT.out _ (Below.drew (Below.refl _ _))).mono ?_
    rintro e w1 ⟨x,rfl,hx,hb1⟩
    have hb1':Below w.heap.size w w1:=(Below.drew (Below.refl _ w)).trans hb1
    have H1:=Lib.hid (H.out.below hb1')
    have HX:Hid (x.ch=zY us/\OwnL w1 (g+1) x):=⟨hx.out.1,hx.out.2.mono (by show g+1<=w.heap.size;omega)⟩
    have HB1:=Lib.hid hb1'
    refine hK.out _ _ (.inr ⟨H1.out.at4,H1.out.at5⟩) ?_
    clear hK K hb1 hb1' hx hS c4 c5 f4 f5
    have hS:w1.cell? ⟨g,4,none⟩=some (.slice At ts.length ct)/\w1.cell? ⟨g,5,none⟩=some (.slice Ap z cp):=⟨H1.out.at4,H1.out.at5⟩
    try simp only[Act.put,zlA,zlB,zlC]
    refine' zb (i:=10) ?i11 (by kernel_rfl) (by kernel_rfl) (by kernel_rfl) (by kernel_rfl) ?q11 ?y11 hS ?r11
    case i11=>simp only[zlD,zlF,zlE];rfl
    case q11=>exact fun _ _ _ h=>h
    case y11=>
      refine Or.inl ⟨by rfl,?_⟩
      intro wq hq
      try dsimp only at hq
      try obtain⟨hq0,hq1⟩:=hq
      go_simp
      try with_reducible rfl
    try simp only[Act.put,zlA,zlB,zlC]
    refine za (rs:=[11]) (by kernel_rfl) (by simp) ?_
    refine' ReadyL.cons ?o12 (fun K hK=>?s12) ReadyL.nil
    case o12=>simp only[zlD,zlF,zlE];rfl
    go_simp
    have h1a:=H1.out.below ((Below.refl _ _).alloc (Nat.le_refl _) (.cells (zbF ⟨3,noLT13,none,0,0,[],false,x⟩).toArray 98))
    refine hK.out _ _ (.inr ⟨h1a.at4,h1a.at5⟩) ?_
    clear hK K hS
    try simp only[Act.put,zlA,zlB,zlC]
    refine za (rs:=[12]) (by kernel_rfl) (by simp) ?_
    refine' ReadyL.cons ?o13 (fun K hK=>?s13) ReadyL.nil
    case o13=>simp only[zlD,zlF,zlE];rfl
    refine zA _ (by rfl) (.tmp 12) (.tmp 19) 32 (by rfl) (g+1) 98 i0 _ 7 120 Tryz.underlying32 hi hz0 hz1 hz2 rfl (by omega) (.slice At ts.length ct) ts.length _ (by rfl) h1a.tok _ (some ⟨w1.heap.size,0,none⟩) 1 1 (zbF ⟨3,noLT13,none,0,0,[],false,x⟩) (by rfl) (by simp) (by rfl) (zbv (Whole.made w1 _ _) rfl) (zhi _) (by simp only[maxLen];omega) (by omega) (by have:=H1.out.lt;simp;omega) ?_
    intro v2 w2 hown2 hgr2 hbl2
    obtain⟨A2,c2,rfl,_,_,_⟩:=zh hown2
    have HM2:=Lib.hid (H1.out.tokMore (t:=⟨3,noLT13,none,0,0,[],false,x⟩) (w2:=w2) ⟨zbQ _ _,World.ownsRow_nil _ _ _ _,rfl,(by intro t ht;cases ht),HX.out.2⟩ hgr2 hown2)
    have HSR2:Hid (Src w2 g L rest (.slice At ts.length ct) (.slice Ap z cp)):=h1a.src.belowG (zaw h1a.tok hgr2 (by have:=H1.out.lt;simp;omega))
    have HB2:Hid (zp0 w (.slice At ts.length ct) (.slice A2 (ts.length+1) c2)):=by
      rcases hbl2 with e | e
      . exact Or.inl e
      . exact Or.inr fun b hb=>by
          rw[e]at hb
          have hb:=Option.some.inj hb
          have:=HB1.out.size
          simp at hb
          omega
    obtain⟨k4,kf4⟩:w2.cell? ⟨g,4,none⟩=some (.slice At ts.length ct)/\w2.frozen? ⟨g,4,none⟩=false:=by
      obtain⟨A,n,c,k,hW⟩:=HSR2.out.cells
      exact⟨hW.at_ 4,hW.free 4⟩
    have k5:w2.cell? ⟨g,5,none⟩=some (.slice Ap z cp):=by
      obtain⟨A,n,c,k,hW⟩:=HSR2.out.cells
      exact hW.at_ 5
    refine hK.out _ _ (.inr ⟨k4,k5⟩) ?_
    clear hK K hown2 hgr2 hbl2 h1a
    try simp only[Act.put,zlA,zlB,zlC]
    refine za (rs:=[13]) (by kernel_rfl) (by simp) ?_
    refine' ReadyL.cons ?o14 (fun K hK=>?s14) ReadyL.nil
    case o14=>simp only[zlD,zlF,zlE];rfl
    go_simp
    refine hK.out _ _ (.inl (by decide)) ?_
    clear hK K
    try simp only[Act.put,zlA,zlB,zlC]
    refine za (rs:=[14]) (by kernel_rfl) (by simp) ?_
    refine' ReadyL.cons ?o15 (fun K hK=>?s15) ReadyL.nil
    case o15=>simp only[zlD,zlF,zlE];rfl
    go_simp
    refine hK.out _ _ (.inl (by decide)) ?_
    clear hK K
    try simp only[Act.put,zlA,zlB,zlC]
    refine za (rs:=[15]) (by kernel_rfl) (by simp) ?_
    refine' ReadyL.cons ?o16 (fun K hK=>?s16) ReadyL.nil
    case o16=>simp only[zlD,zlF,zlE];rfl
    go_simp
    refine hK.out _ _ (.inl (by decide)) ?_
    clear hK K
    try simp only[Act.put,zlA,zlB,zlC]
    refine zg (by kernel_rfl) ?_ _
    have q5:=HM2.out.1.at5
    have qf5:=HM2.out.1.free 5
    clear k4 kf4 k5
    go_wp2_with fail
    go_end0
    refine⟨rfl,ts++ [⟨3,noLT13,none,0,0,[],false,x⟩],_,_,HM2.out.1.pcNone,?_,?_,HB2.out,by rw[List.length_append];exact Nat.le_refl _⟩
    . rw[HF.out,List.map_append,List.map_singleton,zmc x _ HX.out.1]
    . exact((Moved.of_below HB1.out).trans HM2.out.2).trans (Moved.setCell (S:=SG g _) (Moved.refl _ _) (p:=⟨g,5,none⟩) (.inl rfl) _)
theorem zmd{g:Nat}{L rest:Ch}{ts:List TK}{us:List LT}{vt vp:Value}(t:TK)(w:World)(h:RdV w g L rest ts us vt vp)(ht:OwnT w (g+1) t)(hts:ts.length<=1000000000)(hus:us.length<=1073741824)(hz:(zY us).length<=268435456) :
    Calls Tryz.prog 109 #[.pointer (some ⟨g,0,none⟩),.agg (zbF t).toArray] w fun e w'=>e=.returned (.tuple #[])/\∃ ts' vt' vp',RdV w' g L rest ts' [] vt' vp'/\ts'.map TK.pt=zP (ts.map TK.pt) (us.map LT.ch)++ [t.pt]/\Moved (SG g vt) w w':=by
  obtain⟨i0,hi,hz0,hz1,hz2⟩:=info_parts zi6
  have hlt:=h.lt
  have H:=Lib.hid h
  have HT:=Lib.hid ht
  clear h ht
  show Calls Tryz.prog 109 #[.pointer (some ⟨g,0,none⟩),.agg #[.int .i64 (t.kind:Int),.string t.nm.s,.slice t.nm.A t.nm.n t.nm.c,.slice t.A t.n t.c,.bool t.close,.string t.tx.s,.slice t.tx.A t.tx.n t.tx.c]] w _
  go_enter Tryz.func109,Tryz.ntmps109
  go_wp2_with fail
  generalize hw0:w.alloc (.cells #[.int .i64 (t.kind:Int),.string t.nm.s,.slice t.nm.A t.nm.n t.nm.c,.slice t.A t.n t.c,.bool t.close,.string t.tx.s,.slice t.tx.A t.tx.n t.tx.c] 98)=w0
  have y0:Hid (Whole w0 w.heap.size 98 #[.int .i64 (t.kind:Int),.string t.nm.s,.slice t.nm.A t.nm.n t.nm.c,.slice t.A t.n t.c,.bool t.close,.string t.tx.s,.slice t.tx.A t.tx.n t.tx.c]):=by rw[<-hw0];exact Whole.made w _ _
  have hb0:Below w.heap.size w w0:=by rw[<-hw0];exact(Below.refl _ _).alloc (Nat.le_refl _) _
  have H0:=Lib.hid (H.out.below hb0)
  have HT0:=Lib.hid (HT.out.below hb0)
  have HB0:=Lib.hid hb0
  have hz0':=hb0.size
  clear hw0 hb0
  refine(zeB w0 H0.out (by omega) hus hz).mono ?_
  rintro e w1 ⟨rfl,ts',vt',vp',hr1,hp1,hm1,hl1,hn1⟩
  obtain⟨At,ct,rfl,_,_,_⟩:=zh hr1.tok
  have hne:¬ SG g vt w.heap.size:=by
    rintro(e | e)
    . omega
    . have:=(H.out.tok.lt _ e).2;omega
  have y1:=hm1.whole y0.out hne
  have HT1:Hid (OwnT w1 (g+1) t):=by
    have key:∀ {n s b:Nat} {e:TypeId} {v:Value} {xs:List Value},w0.ownsRow b e s v n xs->e≠98->g < b->w1.ownsRow b e s v n xs:=fun {n s b e v xs} ho he hb=>Moved.own hm1 ho fun k hk hs=>by
      rcases hs with hs | hs
      . have:=(ho.lt k hk).1;omega
      . obtain⟨c1,h1⟩:=zaq ho hk
        obtain⟨c2,h2⟩:=zaq H0.out.tok hs
        rw[h1]at h2
        injection h2 with h2
        injection h2 with _ h2 _
        exact he h2
    have kl:∀ {u:LT},OwnL w0 (g+1) u->OwnL w1 (g+1) u:=fun hu=>⟨hu.1,hu.2.1,hu.2.2.1,key hu.2.2.2 (by decide) (Nat.lt_succ_self _)⟩
    have h:=HT0.out
    exact⟨kl h.1,key h.2.1 (by decide) (Nat.lt_succ_self _),h.2.2.1,fun x hx=>⟨kl (h.2.2.2.1 x hx).1,kl (h.2.2.2.1 x hx).2⟩,kl h.2.2.2.2⟩
  have H1:=Lib.hid hr1
  have HP1:=Lib.hid hp1
  have HM1:Hid (Moved (SG g vt) w w1):=(Moved.of_below HB0.out).trans hm1
  have HL1:Hid (∀ b,(Value.slice At ts'.length ct).ownBlock=some b->vt.ownBlock=some b\/w0.heap.size<=b):=fun b hb=>by
    rcases hl1 with e | e
    . exact Or.inl (by rw[<-e];exact hb)
    . exact Or.inr (e b hb)
  have Y1:=Lib.hid y1
  have c4:=hr1.at4
  have p0:=y1.at_ 0
  have p1:=y1.at_ 1
  have p2:=y1.at_ 2
  have p3:=y1.at_ 3
  have p4:=y1.at_ 4
  have p5:=y1.at_ 5
  have p6:=y1.at_ 6
  have hn2:ts'.length<=1000000001:=by omega
  clear hr1 hp1 hm1 hl1 hn1 hne y1 hz hts hus
  go_wp2_with fail
  have hS:w1.drew.cell? ⟨g,4,none⟩=some (.slice At ts'.length ct)/\Whole w1.drew w.heap.size 98 #[.int .i64 (t.kind:Int),.string t.nm.s,.slice t.nm.A t.nm.n t.nm.c,.slice t.A t.n t.c,.bool t.close,.string t.tx.s,.slice t.tx.A t.tx.n t.tx.c]:=⟨c4,Y1.out.drew⟩
  refine zad (S:=(fun V=>V.cell? ⟨g,4,none⟩=some (.slice At ts'.length ct)/\Whole V w.heap.size 98 #[.int .i64 (t.kind:Int),.string t.nm.s,.slice t.nm.A t.nm.n t.nm.c,.slice t.A t.n t.c,.bool t.close,.string t.tx.s,.slice t.tx.A t.tx.n t.tx.c])) (Z:=(fun i=>decide (8<=i))) (by kernel_rfl) ?_
  refine' zb (i:=0) ?i17 (by kernel_rfl) (by kernel_rfl) (by kernel_rfl) (by kernel_rfl) ?q17 ?y17 hS ?r17
  case i17=>simp only[zlD,zlE];rfl
  case q17=>exact fun _ _ _ h=>h
  case y17=>
    refine Or.inl ⟨by rfl,?_⟩
    intro wq hq
    try dsimp only at hq
    try obtain⟨hq0,hq1⟩:=hq
    go_simp
    try with_reducible rfl
  try simp only[Act.put,zlA,zlB,zlC]
  refine' zb (i:=1) ?i18 (by kernel_rfl) (by kernel_rfl) (by kernel_rfl) (by kernel_rfl) ?q18 ?y18 hS ?r18
  case i18=>simp only[zlD,zlF,zlE];rfl
  case q18=>exact fun _ _ _ h=>h
  case y18=>
    refine Or.inl ⟨by rfl,?_⟩
    intro wq hq
    try dsimp only at hq
    try obtain⟨hq0,hq1⟩:=hq
    go_simp
    try with_reducible rfl
  try simp only[Act.put,zlA,zlB,zlC]
  refine' zb (i:=2) ?i19 (by kernel_rfl) (by kernel_rfl) (by kernel_rfl) (by kernel_rfl) ?q19 ?y19 hS ?r19
  case i19=>simp only[zlD,zlF,zlE];rfl
  case q19=>exact fun _ _ _ h=>h
  case y19=>
    refine Or.inl ⟨by rfl,?_⟩
    intro wq hq
    try dsimp only at hq
    try obtain⟨hq0,hq1⟩:=hq
    go_simp
    try with_reducible rfl
  try simp only[Act.put,zlA,zlB,zlC]
  refine' zb (i:=3) ?i20 (by kernel_rfl) (by kernel_rfl) (by kernel_rfl) (by kernel_rfl) ?q20 ?y20 hS ?r20
  case i20=>simp only[zlD,zlF,zlE];rfl
  case q20=>exact fun _ _ _ h=>h
  case y20=>
    refine Or.inl ⟨by rfl,?_⟩
    intro wq hq
    try dsimp only at hq
    try obtain⟨hq0,hq1⟩:=hq
    go_simp
    try with_reducible rfl
  try simp only[Act.put,zlA,zlB,zlC]
  refine' zb (i:=4) ?i21 (by kernel_rfl) (by kernel_rfl) (by kernel_rfl) (by kernel_rfl) ?q21 ?y21 hS ?r21
  case i21=>simp only[zlD,zlF,zlE];rfl
  case q21=>exact fun _ _ _ h=>h
  case y21=>
    refine Or.inl ⟨by rfl,?_⟩
    intro wq hq
    try dsimp only at hq
    try obtain⟨hq0,hq1⟩:=hq
    go_simp
    try with_reducible rfl
  try simp only[Act.put,zlA,zlB,zlC]
  refine' zb (i:=5) ?i22 (by kernel_rfl) (by kernel_rfl) (by kernel_rfl) (by kernel_rfl) ?q22 ?y22 hS ?r22
  case i22=>simp only[zlD,zlF,zlE];rfl
  case q22=>exact fun _ _ _ h=>h
  case y22=>
    refine Or.inl ⟨by rfl,?_⟩
    intro wq hq
    try dsimp only at hq
    try obtain⟨hq0,hq1⟩:=hq
    have hr0:=hq1.at_ 0
    have hr1:=hq1.at_ 1
    have hr2:=hq1.at_ 2
    have hr3:=hq1.at_ 3
    have hr4:=hq1.at_ 4
    have hr5:=hq1.at_ 5
    have hr6:=hq1.at_ 6
    go_simp
    try with_reducible rfl
  try simp only[Act.put,zlA,zlB,zlC]
  refine za (rs:=[6]) (by kernel_rfl) (by simp) ?_
  refine' ReadyL.cons ?o23 (fun K hK=>?s23) ReadyL.nil
  case o23=>simp only[zlD,zlF,zlE];rfl
  go_simp
  have h1a:=H1.out.below (Below.trans (Below.drew (Below.refl w1.heap.size w1)) ((Below.refl _ w1.drew).alloc (Nat.le_refl _) (.cells (zbF t).toArray 98)))
  refine hK.out _ _ (.inr ⟨h1a.at4,Y1.out.drew.alloc _⟩) ?_
  clear hK K hS
  try simp only[Act.put,zlA,zlB,zlC]
  refine za (rs:=[7]) (by kernel_rfl) (by simp) ?_
  refine' ReadyL.cons ?o24 (fun K hK=>?s24) ReadyL.nil
  case o24=>simp only[zlD,zlF,zlE];rfl
  refine zA _ (by rfl) (.tmp 10) (.tmp 12) 32 (by rfl) (g+1) 98 i0 _ 7 120 Tryz.underlying32 hi hz0 hz1 hz2 rfl (by omega) (.slice At ts'.length ct) ts'.length _ (by rfl) h1a.tok _ (some ⟨w1.heap.size,0,none⟩) 1 1 (zbF t) (by rfl) (by simp) (by rfl) (zbv (Whole.made w1.drew _ _) rfl) (zhi _) (by simp only[maxLen];omega) (by omega) (by have:=H1.out.lt;simp;omega) ?_
  intro v2 w2 hown2 hgr2 hbl2
  obtain⟨A2,c2,rfl,_,_,_⟩:=zh hown2
  have HM2:=Lib.hid (H1.out.drew.tokMore (t:=t) (w2:=w2) HT1.out hgr2 hown2)
  have HSR2:Hid (Src w2 g L rest (.slice At ts'.length ct) vp'):=h1a.src.belowG (zaw h1a.tok hgr2 (by have:=H1.out.lt;simp;omega))
  obtain⟨k4,kf4⟩:w2.cell? ⟨g,4,none⟩=some (.slice At ts'.length ct)/\w2.frozen? ⟨g,4,none⟩=false:=by
    obtain⟨A,n,c,k,hW⟩:=HSR2.out.cells
    exact⟨hW.at_ 4,hW.free 4⟩
  have y2:=(Y1.out.drew.alloc (.cells (zbF t).toArray 98)).grown hgr2 (fun e=>by
    rcases HL1.out _ e.symm with h | h
    . have:=(H.out.tok.lt _ h).2;omega
    . have:=y0.out.lt;omega)
  refine hK.out _ _ (.inr ⟨k4,y2⟩) ?_
  clear hK K hown2 hgr2 hbl2 h1a
  try simp only[Act.put,zlA,zlB,zlC]
  refine za (rs:=[8]) (by kernel_rfl) (by simp) ?_
  refine' ReadyL.cons ?o25 (fun K hK=>?s25) ReadyL.nil
  case o25=>simp only[zlD,zlF,zlE];rfl
  go_simp
  refine hK.out _ _ (.inl (by decide)) ?_
  clear hK K
  try simp only[Act.put,zlA,zlB,zlC]
  refine za (rs:=[9]) (by kernel_rfl) (by simp) ?_
  refine' ReadyL.cons ?o26 (fun K hK=>?s26) ReadyL.nil
  case o26=>simp only[zlD,zlF,zlE];rfl
  go_simp
  refine hK.out _ _ (.inl (by decide)) ?_
  clear hK K
  try simp only[Act.put,zlA,zlB,zlC]
  refine za (rs:=[10]) (by kernel_rfl) (by simp) ?_
  refine' ReadyL.cons ?o27 (fun K hK=>?s27) ReadyL.nil
  case o27=>simp only[zlD,zlF,zlE];rfl
  go_simp
  refine hK.out _ _ (.inl (by decide)) ?_
  clear hK K
  try simp only[Act.put,zlA,zlB,zlC]
  refine zg (by kernel_rfl) ?_ _
  go_wp2_with fail
  go_end0
  refine⟨rfl,ts'++ [t],_,_,HM2.out.1,by rw[List.map_append,HP1.out];rfl,?_⟩
  have m1:=HM1.out
  have m2:=HM2.out.2
  exact⟨m2.os.trans m1.os,m2.tape.trans m1.tape,m2.output.trans m1.output,Nat.le_trans m1.size m2.size,fun k hk hs=>(m2.block k (Nat.lt_of_lt_of_le hk m1.size) (fun h2=>by
    rcases h2 with h2 | h2
    . exact hs (.inl h2)
    . rcases HL1.out k h2 with h3 | h3
      . exact hs (.inr h3)
      . omega)).trans (m1.block k hk hs)⟩
structure RdS (w:World) (g:Nat) (L rest:Ch) (toks:List PTok) (ps:List Ch) (mx:Int):Prop where
  ex:∃ ts us vt vp,RdV w g L rest ts us vt vp/\ts.map TK.pt=toks/\us.map LT.ch=ps
  mx:w.cell? ⟨0,0,none⟩=some (.int .i64 mx)
  lo:0 < g
def zj6(g:Nat)(L:Ch)(mx:Int)(x:List PTok × List Ch × Ch)(w:World)(e:Ending)(w':World):Prop:=e=.returned (.tuple #[])/\RdS w' g L x.2.2 x.1 x.2.1 mx/\Below g w w'
section
variable {w w' : World} {g : Nat} {L rest : Ch} {toks : List PTok} {ps : List Ch} {mx : Int}
theorem RdS.src(h:RdS w g L rest toks ps mx):∃ v4 v5,Src w g L rest v4 v5:=by obtain⟨ts,us,vt,vp,h,_⟩:=h.ex;exact⟨vt,vp,h.src⟩
theorem RdS.lt(h:RdS w g L rest toks ps mx):g < w.heap.size:=by obtain⟨v4,v5,h⟩:=h.src;exact h.lt
theorem RdS.inr(h:RdS w g L rest toks ps mx):InR rest:=by obtain⟨v4,v5,h⟩:=h.src;exact h.inr
theorem RdS.len(h:RdS w g L rest toks ps mx):rest.length<=L.length/\L.length<=268435456:=by obtain⟨v4,v5,h⟩:=h.src;exact h.len
theorem RdS.below(h:RdS w g L rest toks ps mx)(hb:Below w.heap.size w w'):RdS w' g L rest toks ps mx:=by
  have hlt:=h.lt
  have hlo:=h.lo
  obtain⟨ts,us,vt,vp,hr,h1,h2⟩:=h.ex
  exact⟨⟨ts,us,vt,vp,hr.below hb,h1,h2⟩,(hb.cell (by show 0 < _;omega)).trans h.mx,h.lo⟩
theorem zbm{w w':World}{g:Nat}{mx:Int}(h:w.cell? ⟨0,0,none⟩=some (.int .i64 mx))(lo:0 < g)(hb:Below g w w'):w'.cell? ⟨0,0,none⟩=some (.int .i64 mx):=(hb.cell lo).trans h
end
theorem idx60(l:Ch):Lib.index (l.map (·.1)) [60]=if ltT l=l.length then -1 else (ltT l:Int):=by
  induction l with
  | nil=>rfl
  | cons x l ih=>
    rw[List.map_cons,Lib.index]
    by_cases hc:x.1=60
    . rw[if_pos (by rw[hc];rfl),zlm hc,if_neg (by simp)]
      rfl
    . rw[if_neg (by simp [List.isPrefixOf];exact fun e=>hc e.symm),zeq hc,List.length_cons]
      by_cases h:ltT l=l.length
      . rw[if_pos h]at ih
        rw[ih,if_pos (by decide),if_pos (by omega)]
      . rw[if_neg h]at ih
        rw[ih,if_neg (by rw[beq_iff_eq];omega),if_neg (by omega)]
        omega
theorem cut60(l:Ch):((⟨(Lib.cut (zi l).data.toList (ByteArray.mk #[60]).data.toList).1.toArray⟩:ByteArray)).size=ltT l:=by
  have hle:=zlb l
  show(Lib.cut (zi l).data.toList [60]).1.toArray.size=_
  rw[zX,List.size_toArray]
  unfold Lib.cut
  rw[idx60]
  by_cases h:ltT l=l.length
  . rw[if_pos h,if_neg (by decide)]
    show(l.map (·.1)).length=_
    rw[List.length_map,h]
  . rw[if_neg h,if_pos (by omega)]
    show((l.map (·.1)).take ((ltT l:Int)).toNat).length=_
    rw[List.length_take,List.length_map]
    omega
theorem zh8(s:ByteArray)(w:World) :
    Calls Tryz.prog 110 #[.string s] w fun e w'=>e=.returned (.bool (s.data.toList == [115,99,114,105,112,116] || s.data.toList == [115,116,121,108,101]))/\w'=w:=by
  have he:s.toList=s.data.toList:=ByteArray.toList_eq s
  have HV:Hid (∀ a b,(s.data.toList == [115,99,114,105,112,116])=a->(s.data.toList == [115,116,121,108,101])=b->(s.data.toList == [115,99,114,105,112,116] || s.data.toList == [115,116,121,108,101])=(a || b)):=fun a b ha hb=>by rw[ha,hb]
  have h1:(s.toList == [115,99,114,105,112,116])=(s.data.toList == [115,99,114,105,112,116]):=by rw[he]
  have h2:(s.toList == [115,116,121,108,101])=(s.data.toList == [115,116,121,108,101]):=by rw[he]
  clear he
  cases ha:s.data.toList == [115,99,114,105,112,116]<;>cases hb:s.data.toList == [115,116,121,108,101]
  all_goals
    rw[ha]at h1
    rw[hb]at h2
    have HR:=Lib.hid (HV.out _ _ ha hb)
    clear ha hb
    go_enter Tryz.func110,Tryz.ntmps110
    go_wp2
    go_ret
    first | exact⟨rfl,rfl⟩ | exact⟨by simp,rfl⟩
theorem zp1{b:UInt8}:(lowB b=60↔b=60)/\(lowB b=47↔b=47):=by
  have h:=zoq (p:=fun b=>((lowB b == 60) == (b == 60)) && ((lowB b == 47) == (b == 47))) (by decide+kernel) b
  simp only[Bool.and_eq_true,beq_iff_eq]at h
  constructor
  . have:=h.1
    constructor
    . intro e;rw[e]at this;simpa using this
    . intro e;rw[e];decide
  . have:=h.2
    constructor
    . intro e;rw[e]at this;simpa using this
    . intro e;rw[e];decide
theorem zme(l:Ch):(lowL l).map (·.1)=(l.map (·.1)).map lowB:=by unfold lowL;rw[List.map_map,List.map_map];rfl
theorem zo9{l:Ch}{name:List UInt8}(hn:name.map lowB=name)(h:((l.map (·.1)).take 2 == [60,47])=false\/zbh lowB (l.map (·.1)) ([60,47]++ name)=false):zdh l name=false:=by
  cases hc:l[name.length+2]? with
  | none=>unfold zdh;rw[hc]
  | some c=>
    have hlt:=(List.getElem?_eq_some_iff.1 hc).1
    rw[zfb hc]
    cases he:((lowL (l.take (name.length+2))).map (·.1) == [60,47]++ name) with
    | false=>rw[Bool.and_false]
    | true=>
      exfalso
      have he:=beq_iff_eq.1 he
      rw[zme,List.map_take,List.map_take]at he
      rcases h with h | h
      . match l,hlt with
        | a::b::m,_=>
          rw[List.map_cons,List.map_cons,List.map_cons,List.map_cons,List.take_succ_cons,List.take_succ_cons,List.cons_append,List.cons_append]at he
          injection he with h1 he
          injection he with h2 _
          rw[List.map_cons,List.map_cons,zp1.1.1 h1,zp1.2.1 h2]at h
          exact absurd h (by simp)
      . unfold zbh at h
        rw[Bool.and_eq_false_iff]at h
        rcases h with h | h
        . have:=of_decide_eq_false h
          rw[List.length_append,List.length_map]at this
          simp at this
          omega
        . rw[beq_eq_false_iff_ne]at h
          apply h
          have e2:([60,47]++ name:List UInt8).length=name.length+2:=by simp
          rw[e2,he,List.map_append,hn]
          rfl
theorem znO{l:Ch}{name:List UInt8}(hn:name.map lowB=name)(h:zbh lowB (l.map (·.1)) ([60,47]++ name)=true):zdh l name=match l.drop (name.length+2)with | []=>false | c::_=>endT c.1:=by
  unfold zbh at h
  rw[Bool.and_eq_true]at h
  have h2:=beq_iff_eq.1 h.2
  have e2:([60,47]++ name:List UInt8).length=name.length+2:=by simp
  rw[e2,List.map_append,hn]at h2
  have e:((lowL (l.take (name.length+2))).map (·.1) == [60,47]++ name)=true:=by
    rw[beq_iff_eq,zme,List.map_take,List.map_take,h2]
    rfl
  cases hd:l.drop (name.length+2) with
  | nil=>
    unfold zdh
    rw[List.getElem?_eq_none (by simpa using hd)]
  | cons c m=>
    rw[zfb (za2 hd).1,e,Bool.and_true]
    exact(zlh c.1).symm
theorem zh9(l:Ch)(e:ByteArray)(name:List UInt8)(w:World)(he:e.data.toList=[60,47]++ name)(hn:name.map lowB=name)(hnl:name.length<=100) :
    Calls Tryz.prog 149 #[.string (zi l),.string e] w fun r w'=>r=.returned (.bool (zdh l name))/\Below w.heap.size w w':=by
  have hel:e.size=name.length+2:=by
    have:=congrArg List.length he
    rw[Array.length_toList,List.length_append]at this
    show e.data.size=_
    rw[this];simp;omega
  have HP:=fun V=>Lib.hid (zaR (zi l) ⟨#[60,47]⟩ V)
  have hpe:((zi l).data.toList.take (ByteArray.mk #[60,47]).size == (ByteArray.mk #[60,47]).data.toList)=((l.map (·.1)).take 2 == [60,47]):=by rw[zX];rfl
  rw[hpe]at HP
  have HB:=fun V=>Lib.hid (zjB (zi l) none 0 0 e V (by omega))
  rw[zX,he]at HB
  have hno:=fun h=>Lib.hid (zo9 (l:=l) hn h)
  have hye:=fun h=>Lib.hid (znO (l:=l) hn h)
  have hsz:(zi l).size=l.length:=zG l
  have HDX:Hid ((zi l).extract e.size (zi l).size=zi (l.drop e.size)):=zcZ l e.size
  cases hp:((l.map (·.1)).take 2 == [60,47]) with
  | false=>
    have HV:=hno (Or.inl hp)
    rw[hp]at HP
    clear hno hye HB hpe hp HDX he
    generalize zi l=t at *
    go_enter Tryz.func149,Tryz.ntmps149
    go_wp2_with fail
    refine(HP _).out.mono ?_
    rintro r w1 ⟨rfl,rfl⟩
    go_wp2_with fail
    go_ret
    exact⟨by rw[HV.out];rfl,Below.refl _ _⟩
  | true=>
    rw[hp]at HP
    cases hb:zbh lowB (l.map (·.1)) ([60,47]++ name) with
    | false=>
      have HV:=hno (Or.inr hb)
      rw[hb]at HB
      clear hno hye hpe hp hb HDX he
      generalize zi l=t at *
      go_enter Tryz.func149,Tryz.ntmps149
      go_wp2_with fail
      refine(HP _).out.mono ?_
      rintro r w1 ⟨rfl,rfl⟩
      go_wp2_with fail
      refine(HB _).out.mono ?_
      rintro r w2 ⟨rfl,hb2⟩
      go_wp2_with fail
      go_ret
      exact⟨by rw[HV.out];rfl,hb2⟩
    | true=>
      have hV:=(hye hb).out
      have hle:e.size<=(zi l).size:=by
        unfold zbh at hb
        rw[Bool.and_eq_true]at hb
        have:=of_decide_eq_true hb.1
        rw[List.length_append,List.length_map]at this
        simp at this
        omega
      rw[<-hel]at hV
      rw[hb]at HB
      have hle2:(e.size:Int)<=((zi l).size:Int):=by omega
      have hle0:(0:Int)<=(e.size:Int):=Int.natCast_nonneg _
      clear hno hye hpe hp hb he hle hel hsz
      cases hd:l.drop e.size with
      | nil=>
        rw[hd]at hV HDX
        have HV:Hid (zdh l name=false):=hV
        have hem:(zi []).toList.isEmpty=true:=by rw[ByteArray.toList_eq,zX];rfl
        have hem2:((zi []).toList == [])=true:=by rw[ByteArray.toList_eq,zX];rfl
        have hdx:=HDX.out
        generalize zi []=t2 at *
        generalize zi l=t at *
        clear hV hd
        go_enter Tryz.func149,Tryz.ntmps149
        go_wp2_with fail
        refine(HP _).out.mono ?_
        rintro r w1 ⟨rfl,rfl⟩
        go_wp2_with fail
        refine(HB _).out.mono ?_
        rintro r w2 ⟨rfl,hb2⟩
        go_wp2_with fail
        go_ret
        exact⟨by rw[HV.out];rfl,hb2⟩
      | cons c m=>
        rw[hd]at hV HDX
        have HV:Hid (zdh l name=endT c.1):=hV
        have hdt:(zi (c::m)).data.toList=c.1::m.map (·.1):=zX _
        have hs0:0 < (zi (c::m)).size:=by rw[zG,List.length_cons];omega
        have hem:(zi (c::m)).toList.isEmpty=false:=by rw[ByteArray.toList_eq,hdt];rfl
        have hx:(zi (c::m))[0]'hs0=c.1:=by
          have e:(zi (c::m)).data.toList[0]?=some ((zi (c::m))[0]'hs0):=Lib.data_getElem? _ 0 hs0
          rw[hdt]at e
          exact(Option.some.inj e).symm
        have hi0:(0:Int) < ((zi (c::m)).size:Int):=by omega
        have hdx:=HDX.out
        have HIB:Hid (∀ V,Calls Tryz.prog 173 #[.string ⟨#[9,10,12,32,47,62]⟩,.int .u8 c.1.toNat] V fun e w'=>e=.returned (.int .i64 (Lib.indexByte [9,10,12,32,47,62] c.1))/\w'=V):=fun V=>by
          have:=Tryz.strings_IndexByte ⟨#[9,10,12,32,47,62]⟩ (c.1.toNat:Int) V
          rw[show((c.1.toNat:Int)).toNat.toUInt8=c.1 by simp]at this
          exact this
        have HCO:Hid (endT c.1=decide (0<=Lib.indexByte [9,10,12,32,47,62] c.1)):=Lib.contains_iff_indexByte _ _
        generalize zi (c::m)=t2 at *
        generalize zi l=t at *
        generalize Lib.indexByte [9,10,12,32,47,62] c.1=k at *
        clear hV hd hdt
        go_enter Tryz.func149,Tryz.ntmps149
        go_wp2_with fail
        refine(HP _).out.mono ?_
        rintro r w1 ⟨rfl,rfl⟩
        go_wp2_with fail
        refine(HB _).out.mono ?_
        rintro r w2 ⟨rfl,hb2⟩
        go_wp2_with fail
        refine(HIB.out _).mono ?_
        rintro r w3 ⟨rfl,hw3⟩
        rw[hw3]
        go_wp2_with fail
        go_ret
        exact⟨by rw[HV.out,HCO.out];rfl,hb2⟩
theorem zbS:(Tryz.prog.info? 24).map (fun i=>(i.zero,i.size,i.bytes))=some (some (.agg #[.string ⟨#[]⟩,.slice none 0 0]),2,40):=by kernel_rfl
theorem zdH{g:Nat}{L m:Ch}{c:UInt8 × Int}{toks:List PTok}{ps:List Ch}{mx:Int}(w:World)(h:RdS w g L (c::m) toks ps mx)(hus:ps.length<=1000000000) :
    Calls Tryz.prog 69 #[.pointer (some ⟨g,0,none⟩)] w (zj6 g L mx (toks,ps++ [decE ((c::m).take (1+ltT m))],(c::m).drop (1+ltT m)) w):=by
  obtain⟨i0,hi,hz0,hz1,hz2⟩:=info_parts zbS
  have hlt:=h.lt
  have hlo:=h.lo
  have hlen:=h.len
  have HMX:=Lib.hid h.mx
  obtain⟨ts,us,vt,vp,hr,rfl,rfl⟩:=h.ex
  have H:=Lib.hid hr
  obtain⟨Ap,cp,rfl,_,_,_⟩:=zh hr.pcs
  rw[List.length_map]at hus
  have hlt2:=zlb m
  rw[List.length_cons]at hlen
  have HC60:=Lib.hid (cut60 m)
  have htx:(zi m).size<=4294967280:=by rw[zG];omega
  have HDX:Hid ((zi (c::m)).extract 1 (zi (c::m)).size=zi m):=zcZ (c::m) 1
  have h1s:(1:Int)<=((zi (c::m)).size:Int):=by rw[zG,List.length_cons];omega
  have hdx:=HDX.out
  have HCUT:Hid (∀ V,Below g w V->Calls Tryz.prog 112 #[.string (zi m),.string ⟨#[60]⟩] V fun e w'=>e=.returned (.tuple #[.string ⟨(Lib.cut (zi m).data.toList (ByteArray.mk #[60]).data.toList).1.toArray⟩,.string ⟨(Lib.cut (zi m).data.toList (ByteArray.mk #[60]).data.toList).2.1.toArray⟩,.bool (Lib.cut (zi m).data.toList (ByteArray.mk #[60]).data.toList).2.2])/\∃ n,w'=V.drewN n):=fun V hV=>Tryz.strings_Cut (zi m) ⟨#[60]⟩ mx V (by omega) (zbm HMX.out hlo hV)
  have HRST:=Lib.hid (zfm hr.src)
  generalize (Lib.cut (zi m).data.toList (ByteArray.mk #[60]).data.toList)=q at *
  generalize (⟨q.1.toArray⟩:ByteArray)=qa at *
  have hqs:(qa.size:Int)=(ltT m:Int):=by rw[HC60.out]
  obtain⟨tk,htk⟩:∃ tk,(c::m).take (1+ltT m)=tk:=⟨_,rfl⟩
  rw[htk]
  have HT:=Lib.hid htk
  clear htk
  have HNL:Hid (1+ltT m<=(c::m).length):=by show _<=_;rw[List.length_cons];omega
  have hw1:IntKind.i64.wrap (1+(ltT m:Int))=((1+ltT m:Nat):Int):=by rw[show(1:Int)+(ltT m:Int)=((1+ltT m:Nat):Int) by omega];exact IntWalk.i64_in _ (by omega)
  generalize zi (c::m)=t0 at *
  generalize zi m=t1 at *
  generalize 1+ltT m=k at *
  clear HC60 htx hlt2 h hr
  go_enter Tryz.func69,Tryz.ntmps69
  go_wp2_with fail
  refine HRST.out.mono ?_
  rintro e w1 ⟨rfl,n1,rfl⟩
  have HB1:Hid (Below g w (w.drewN n1)):=(Below.refl _ _).drewN n1
  generalize hw1':w.drewN n1=w1 at *
  have H1:Hid (RdV w1 g L (c::m) ts us vt (.slice Ap us.length cp)):=by rw[<-hw1'];exact H.out.drewN n1
  clear hw1'
  go_wp2_with fail
  refine(HCUT.out w1 HB1.out).mono ?_
  rintro e w2 ⟨rfl,n2,rfl⟩
  have H2:=Lib.hid (H1.out.drewN n2)
  have HB2:Hid (Below g w (w1.drewN n2)):=HB1.out.drewN n2
  generalize w1.drewN n2=w3 at *
  clear H1 HB1 HRST HCUT HDX hdx h1s
  go_wp2_with fail
  have hS:w3.drew.cell? ⟨g,5,none⟩=some (.slice Ap us.length cp):=H2.out.drew.at5
  have h5:w3.drew.cell? ⟨g,5,none⟩=some (.slice Ap us.length cp):=hS
  refine zad (S:=(fun V=>V.cell? ⟨g,5,none⟩=some (.slice Ap us.length cp))) (Z:=(fun i=>decide (15<=i))) (by kernel_rfl) ?_
  refine' zb (i:=0) ?i1 (by kernel_rfl) (by kernel_rfl) (by kernel_rfl) (by kernel_rfl) ?q1 ?y1 hS ?r1
  case i1=>simp only[zlD,zlE];rfl
  case q1=>exact fun _ _ _ h=>h
  case y1=>
    refine Or.inl ⟨by rfl,?_⟩
    intro wq hq
    try dsimp only at hq
    go_simp
    try with_reducible rfl
  try simp only[Act.put,zlA,zlB,zlC]
  refine' zb (i:=1) ?i2 (by kernel_rfl) (by kernel_rfl) (by kernel_rfl) (by kernel_rfl) ?q2 ?y2 hS ?r2
  case i2=>simp only[zlD,zlF,zlE];rfl
  case q2=>exact fun _ _ _ h=>h
  case y2=>
    refine Or.inl ⟨by rfl,?_⟩
    intro wq hq
    try dsimp only at hq
    go_simp
    try with_reducible rfl
  try simp only[Act.put,zlA,zlB,zlC]
  refine' zb (i:=2) ?i3 (by kernel_rfl) (by kernel_rfl) (by kernel_rfl) (by kernel_rfl) ?q3 ?y3 hS ?r3
  case i3=>simp only[zlD,zlF,zlE];rfl
  case q3=>exact fun _ _ _ h=>h
  case y3=>
    refine Or.inl ⟨by rfl,?_⟩
    intro wq hq
    try dsimp only at hq
    go_simp
    try with_reducible rfl
  try simp only[Act.put,zlA,zlB,zlC]
  refine' zb (i:=3) ?i4 (by kernel_rfl) (by kernel_rfl) (by kernel_rfl) (by kernel_rfl) ?q4 ?y4 hS ?r4
  case i4=>simp only[zlD,zlF,zlE];rfl
  case q4=>exact fun _ _ _ h=>h
  case y4=>
    refine Or.inl ⟨by rfl,?_⟩
    intro wq hq
    try dsimp only at hq
    go_simp
    try with_reducible rfl
  try simp only[Act.put,zlA,zlB,zlC]
  refine' zb (i:=4) ?i5 (by kernel_rfl) (by kernel_rfl) (by kernel_rfl) (by kernel_rfl) ?q5 ?y5 hS ?r5
  case i5=>simp only[zlD,zlF,zlE];rfl
  case q5=>exact fun _ _ _ h=>h
  case y5=>
    refine Or.inl ⟨by rfl,?_⟩
    intro wq hq
    try dsimp only at hq
    go_simp
    try with_reducible rfl
  try simp only[Act.put,zlA,zlB,zlC]
  refine' zb (i:=5) ?i6 (by kernel_rfl) (by kernel_rfl) (by kernel_rfl) (by kernel_rfl) ?q6 ?y6 hS ?r6
  case i6=>simp only[zlD,zlF,zlE];rfl
  case q6=>exact fun _ _ _ h=>h
  case y6=>
    refine Or.inl ⟨by rfl,?_⟩
    intro wq hq
    try dsimp only at hq
    go_simp
    try with_reducible rfl
  try simp only[Act.put,zlA,zlB,zlC]
  refine' zb (i:=6) ?i7 (by kernel_rfl) (by kernel_rfl) (by kernel_rfl) (by kernel_rfl) ?q7 ?y7 hS ?r7
  case i7=>simp only[zlD,zlF,zlE];rfl
  case q7=>exact fun _ _ _ h=>h
  case y7=>
    refine Or.inl ⟨by rfl,?_⟩
    intro wq hq
    try dsimp only at hq
    go_simp
    try with_reducible rfl
  try simp only[Act.put,zlA,zlB,zlC]
  refine' zb (i:=7) ?i8 (by kernel_rfl) (by kernel_rfl) (by kernel_rfl) (by kernel_rfl) ?q8 ?y8 hS ?r8
  case i8=>simp only[zlD,zlF,zlE];rfl
  case q8=>exact fun _ _ _ h=>h
  case y8=>
    refine Or.inl ⟨by rfl,?_⟩
    intro wq hq
    try dsimp only at hq
    go_simp
    try with_reducible rfl
  try simp only[Act.put,zlA,zlB,zlC]
  refine' zb (i:=8) ?i9 (by kernel_rfl) (by kernel_rfl) (by kernel_rfl) (by kernel_rfl) ?q9 ?y9 hS ?r9
  case i9=>simp only[zlD,zlF,zlE];rfl
  case q9=>exact fun _ _ _ h=>h
  case y9=>
    refine Or.inl ⟨by rfl,?_⟩
    intro wq hq
    try dsimp only at hq
    go_simp
    try with_reducible rfl
  try simp only[Act.put,zlA,zlB,zlC]
  refine' zb (i:=9) ?i10 (by kernel_rfl) (by kernel_rfl) (by kernel_rfl) (by kernel_rfl) ?q10 ?y10 hS ?r10
  case i10=>simp only[zlD,zlF,zlE];rfl
  case q10=>exact fun _ _ _ h=>h
  case y10=>
    refine Or.inl ⟨by rfl,?_⟩
    intro wq hq
    try dsimp only at hq
    go_simp
    try with_reducible rfl
  try simp only[Act.put,zlA,zlB,zlC]
  refine' zb (i:=10) ?i11 (by kernel_rfl) (by kernel_rfl) (by kernel_rfl) (by kernel_rfl) ?q11 ?y11 hS ?r11
  case i11=>simp only[zlD,zlF,zlE];rfl
  case q11=>exact fun _ _ _ h=>h
  case y11=>
    refine Or.inl ⟨by rfl,?_⟩
    intro wq hq
    try dsimp only at hq
    go_simp
    try with_reducible rfl
  try simp only[Act.put,zlA,zlB,zlC]
  refine za (rs:=[11]) (by kernel_rfl) (by simp) ?_
  refine' ReadyL.cons ?o12 (fun K hK=>?s12) ReadyL.nil
  case o12=>simp only[zlD,zlF,zlE];rfl
  go_simp
  refine(zi4 k H2.out.drew.src HNL.out).mono ?_
  rintro e w4 ⟨u,rfl,hu,hs4,hv4⟩
  rw[HT.out]at hu
  have H4:=Lib.hid (H2.out.drew.sv hs4 hv4)
  have HB4:Hid (Below g w w4):=HB2.out.drew.trans (hv4.below (by have:=H2.out.lt;exact Nat.le_of_lt this))
  refine hK.out _ _ (.inr H4.out.at5) ?_
  clear hK K hs4 hv4 hS h5
  try simp only[Act.put,zlA,zlB,zlC]
  refine za (rs:=[12]) (by kernel_rfl) (by simp) ?_
  refine' ReadyL.cons ?o13 (fun K hK=>?s13) ReadyL.nil
  case o13=>simp only[zlD,zlF,zlE];rfl
  go_simp
  refine(zg8 u w4 hu.out.2.ok).mono ?_
  rintro e w5 ⟨x,rfl,hx,hb5⟩
  have H5:=Lib.hid (H4.out.below hb5)
  have HB5:Hid (Below g w w5):=HB4.out.trans (hb5.mono (Nat.le_of_lt H4.out.lt))
  have HX:Hid (x.ch=decE tk/\OwnL w5 (g+1) x):=⟨by rw[hx.out.1,hu.out.1],hx.out.2.mono H4.out.lt⟩
  refine hK.out _ _ (.inr H5.out.at5) ?_
  clear hK K hb5 hx hu
  try simp only[Act.put,zlA,zlB,zlC]
  refine za (rs:=[13]) (by kernel_rfl) (by simp) ?_
  refine' ReadyL.cons ?o14 (fun K hK=>?s14) ReadyL.nil
  case o14=>simp only[zlD,zlF,zlE];rfl
  go_simp
  have h5a:=H5.out.below ((Below.refl _ _).alloc (Nat.le_refl _) (.cells #[.string x.s,.slice x.A x.n x.c] 24))
  refine hK.out _ _ (.inr h5a.at5) ?_
  clear hK K
  try simp only[Act.put,zlA,zlB,zlC]
  refine za (rs:=[14]) (by kernel_rfl) (by simp) ?_
  refine' ReadyL.cons ?o15 (fun K hK=>?s15) ReadyL.nil
  case o15=>simp only[zlD,zlF,zlE];rfl
  refine zA _ (by rfl) (.tmp 19) (.tmp 28) 42 (by rfl) (g+1) 24 i0 _ 2 40 Tryz.underlying42 hi hz0 hz1 hz2 rfl (by omega) (.slice Ap us.length cp) us.length _ (by rfl) h5a.pcs _ (some ⟨w5.heap.size,0,none⟩) 1 1 [.string x.s,.slice x.A x.n x.c] (by rfl) (by simp) (by rfl) (zbv (Whole.made w5 _ _) rfl) (by simp [Value.oneCell']) (by simp only[maxLen];omega) (by omega) (by have:=h5a.lt;omega) ?_
  intro v2 w2 hown2 hgr2 _
  obtain⟨A2,c2,rfl,_,_,_⟩:=zh hown2
  have HM2:=Lib.hid (H5.out.pcMore (u:=x) (w2:=w2) HX.out.2 hgr2 hown2)
  have HSR2:Hid (Src w2 g L ((c::m).drop k) vt (.slice Ap us.length cp)/\Below (g+1) w5 w2):=⟨h5a.src.belowG (zaw h5a.pcs hgr2 h5a.lt),(((Below.refl _ _).alloc (Nat.le_refl _) _).mono (by have:=H5.out.lt;omega)).trans (zaw h5a.pcs hgr2 h5a.lt)⟩
  obtain⟨k5,kf5⟩:w2.cell? ⟨g,5,none⟩=some (.slice Ap us.length cp)/\w2.frozen? ⟨g,5,none⟩=false:=by
    obtain⟨A,n,c,k,hW⟩:=HSR2.out.1.cells
    exact⟨hW.at_ 5,hW.free 5⟩
  refine hK.out _ _ (.inr k5) ?_
  clear hK K hown2 hgr2 h5a
  try simp only[Act.put,zlA,zlB,zlC]
  refine za (rs:=[15]) (by kernel_rfl) (by simp) ?_
  refine' ReadyL.cons ?o16 (fun K hK=>?s16) ReadyL.nil
  case o16=>simp only[zlD,zlF,zlE];rfl
  go_simp
  refine hK.out _ _ (.inl (by decide)) ?_
  clear hK K
  try simp only[Act.put,zlA,zlB,zlC]
  refine za (rs:=[16]) (by kernel_rfl) (by simp) ?_
  refine' ReadyL.cons ?o17 (fun K hK=>?s17) ReadyL.nil
  case o17=>simp only[zlD,zlF,zlE];rfl
  go_simp
  refine hK.out _ _ (.inl (by decide)) ?_
  clear hK K
  try simp only[Act.put,zlA,zlB,zlC]
  refine za (rs:=[17]) (by kernel_rfl) (by simp) ?_
  refine' ReadyL.cons ?o18 (fun K hK=>?s18) ReadyL.nil
  case o18=>simp only[zlD,zlF,zlE];rfl
  go_simp
  refine hK.out _ _ (.inl (by decide)) ?_
  clear hK K
  try simp only[Act.put,zlA,zlB,zlC]
  refine zg (by kernel_rfl) ?_ _
  have HBZ:Hid (Below g w (w2.setCell ⟨g,5,none⟩ (.slice A2 (us.length+1) c2))):=(HB5.out.trans (HSR2.out.2.mono (Nat.le_succ _))).setCell (p:=⟨g,5,none⟩) (Nat.le_refl _) _
  go_wp2_with fail
  go_end0
  refine⟨rfl,⟨⟨ts,us++ [x],vt,_,HM2.out,rfl,by rw[List.map_append,List.map_singleton,HX.out.1]⟩,zbm HMX.out hlo HBZ.out,hlo⟩,HBZ.out⟩
def zp2(name:List UInt8)(rest:Ch)(w:World)(s5:Value)(wr:World):Prop:=
  ∃ k:Nat,s5=.int .i64 (k:Int)/\k<=rawT name rest/\Below w.heap.size w wr
theorem zpa(name:List UInt8)(l:Ch)(k:Nat)(hk:k<=rawT name l):(k < l.length->zdh (l.drop k) name=decide (k=rawT name l))/\(k=l.length->k=rawT name l):=by
  induction l generalizing k with
  | nil=>exact⟨fun h=>absurd h (by simp),fun h=>by unfold rawT at hk ⊢;omega⟩
  | cons c l ih=>
    unfold rawT at hk ⊢
    by_cases he:zdh (c::l) name=true
    . rw[if_pos he]at hk ⊢
      obtain rfl:k=0:=by omega
      exact⟨fun _=>by rw[List.drop_zero,he];rfl,fun h=>by simp at h⟩
    . rw[if_neg he]at hk ⊢
      cases k with
      | zero=>
        refine⟨fun _=>?_,fun h=>by simp at h⟩
        rw[List.drop_zero,Bool.not_eq_true]at *
        rw[he,decide_eq_false (by omega)]
      | succ k=>
        obtain⟨h1,h2⟩:=ih k (by omega)
        refine⟨fun h=>?_,fun h=>?_⟩
        . rw[List.drop_succ_cons,h1 (by simpa using h)]
          exact decide_eq_decide.2 (by omega)
        . rw[h2 (by simpa using h)]
theorem zia{g:Nat}{L rest:Ch}{toks:List PTok}{ps:List Ch}{mx:Int}(e:ByteArray)(name:List UInt8)(w:World)(h:RdS w g L rest toks ps mx)(he:e.data.toList=[60,47]++ name)(hn:name.map lowB=name)(hnl:name.length<=100)(hus:ps.length<=1000000000) :
    Calls Tryz.prog 111 #[.pointer (some ⟨g,0,none⟩),.string e] w (zj6 g L mx (toks,ps++ (if rawT name rest=0 then [] else [rest.take (rawT name rest)]),rest.drop (rawT name rest)) w):=by
  obtain⟨i0,hi,hz0,hz1,hz2⟩:=info_parts zbS
  have hlt:=h.lt
  have hlo:=h.lo
  have hlen:=h.len
  have HMX:=Lib.hid h.mx
  obtain⟨ts,us,vt,vp,hr,rfl,rfl⟩:=h.ex
  have H:=Lib.hid hr
  obtain⟨Ap,cp,rfl,_,_,_⟩:=zh hr.pcs
  rw[List.length_map]at hus
  have hrl:=zfK name rest
  have HRST:=Lib.hid (zfm hr.src)
  have HER:Hid (∀ (V:World) (k:Nat),Calls Tryz.prog 149 #[.string (zi (rest.drop k)),.string e] V fun r w'=>r=.returned (.bool (zdh (rest.drop k) name))/\Below V.heap.size V w'):=fun V k=>zh9 (rest.drop k) e name V he hn hnl
  obtain⟨X,hX⟩:∃ X,(if rawT name rest=0 then [] else [rest.take (rawT name rest)])=X:=⟨_,rfl⟩
  rw[hX]
  have HXX:=Lib.hid hX
  clear hX
  have hts:((zi rest).size:Int)=(rest.length:Int):=by rw[zG]
  have HEX:=fun k=>Lib.hid (zcZ rest k)
  have HRA:=fun k hk=>Lib.hid (zpa name rest k hk)
  have HTS:Hid ((zi rest).size=rest.length):=zG rest
  generalize htt:zi rest=t at *
  clear h hr he hn htt
  go_enter Tryz.func111,Tryz.ntmps111
  go_wp2_with fail
  refine HRST.out.mono ?_
  rintro r w1 ⟨rfl,n1,rfl⟩
  have HB1:Hid (Below w.heap.size w (w.drewN n1)):=(Below.refl _ _).drewN n1
  generalize w.drewN n1=w1 at *
  clear HRST
  go_upto_block 0 with fail
  go_cut [5] (fun s5 wx=>s5=.int .i64 (rawT name rest:Int)/\Below w.heap.size w wx)
  case first=>
    go_wp2_with fail
    go_loopw [5] (zp2 name rest w) (fun s5 _=>rest.length - (intOf s5).toNat)
    case atStart=>exact⟨0,rfl,Nat.zero_le _,HB1.out⟩
    case round=>
      obtain⟨k,rfl,hk,hbr⟩:=hrel
      obtain⟨hra1,hra2⟩:=(HRA k hk).out
      have hk0:(0:Int)<=(k:Int):=Int.natCast_nonneg _
      by_cases hkl:k < rest.length
      . have hkz:(k:Int) < (rest.length:Int):=by omega
        have hkt:(k:Int)<=(t.size:Int):=by omega
        have hex:=(HEX k).out
        have hE:=hra1 hkl
        have HEK:=Lib.hid (HER.out wr k)
        generalize zi (rest.drop k)=tk at *
        rw[hE]at HEK
        clear hra1 hra2 hE
        by_cases hq:k=rawT name rest
        . rw[decide_eq_true hq]at HEK
          have HQ:=Lib.hid hq
          have HBR:=Lib.hid hbr
          clear hq hbr hrl hk
          go_wp2_with fail
          refine HEK.out.mono ?_
          rintro r w2 ⟨rfl,hb2⟩
          have HB2:Hid (Below w.heap.size w w2):=zf HBR.out (Nat.le_refl _) hb2
          clear hb2
          go_wp2_with fail
          go_meet
          exact⟨by rw[<-HQ.out],HB2.out⟩
        . rw[decide_eq_false hq]at HEK
          have HQ:Hid (k+1<=rawT name rest):=by show _<=_;omega
          have HBR:=Lib.hid hbr
          clear hq hbr hrl hk
          go_wp2_with fail
          refine HEK.out.mono ?_
          rintro r w2 ⟨rfl,hb2⟩
          have HB2:Hid (Below w.heap.size w w2):=zf HBR.out (Nat.le_refl _) hb2
          clear hb2
          go_wp2_with fail
          go_roundw
          case rel=>exact⟨k+1,by go_num,HQ.out,HB2.out⟩
          case measure=>simp [intOf];omega
      . have hke:k=rest.length:=by omega
        have hkz:¬ (k:Int) < (rest.length:Int):=by omega
        have HQ:=Lib.hid (hra2 hke)
        have HBR:=Lib.hid hbr
        clear hke hbr hrl hk hra1 hra2 hkl
        go_wp2_with fail
        go_meet
        exact⟨by rw[<-HQ.out],HBR.out⟩
  case rest=>
    obtain⟨rfl,hbc⟩:=hcut
    have HC:=Lib.hid (H.out.below hbc)
    have HBC:Hid (Below g w wc):=hbc.mono (Nat.le_of_lt hlt)
    clear hbc H HER HRA HEX HB1 HTS hts
    obtain⟨wd,hwd⟩:∃ wd:World,wd=wc:=⟨_,rfl⟩
    rw[<-hwd]at HC HBC ⊢
    clear hwd
    generalize rawT name rest=k at *
    by_cases hk:k=0
    . subst hk
      go_wp2_with fail
      go_end0
      have e0:X=[]:=by rw[<-HXX.out];rfl
      rw[e0,List.append_nil]
      exact⟨rfl,⟨⟨ts,us,vt,_,HC.out,rfl,rfl⟩,zbm HMX.out hlo HBC.out,hlo⟩,HBC.out⟩
    . have HXK:Hid (X=[rest.take k]):=by show _=_;rw[<-HXX.out,if_neg hk]
      clear HXX
      have hkp:(0:Int) < (k:Int):=by omega
      clear hk
      go_wp2_with fail
      have hS:wd.drew.cell? ⟨g,5,none⟩=some (.slice Ap us.length cp):=HC.out.drew.at5
      have h5:wd.drew.cell? ⟨g,5,none⟩=some (.slice Ap us.length cp):=hS
      refine zad (S:=(fun V=>V.cell? ⟨g,5,none⟩=some (.slice Ap us.length cp))) (Z:=(fun i=>decide (12<=i))) (by kernel_rfl) ?_
      refine' zb (i:=0) ?i19 (by kernel_rfl) (by kernel_rfl) (by kernel_rfl) (by kernel_rfl) ?q19 ?y19 hS ?r19
      case i19=>simp only[zlD,zlE];rfl
      case q19=>exact fun _ _ _ h=>h
      case y19=>
        refine Or.inl ⟨by rfl,?_⟩
        intro wq hq
        try dsimp only at hq
        go_simp
        try with_reducible rfl
      try simp only[Act.put,zlA,zlB,zlC]
      refine' zb (i:=1) ?i20 (by kernel_rfl) (by kernel_rfl) (by kernel_rfl) (by kernel_rfl) ?q20 ?y20 hS ?r20
      case i20=>simp only[zlD,zlF,zlE];rfl
      case q20=>exact fun _ _ _ h=>h
      case y20=>
        refine Or.inl ⟨by rfl,?_⟩
        intro wq hq
        try dsimp only at hq
        go_simp
        try with_reducible rfl
      try simp only[Act.put,zlA,zlB,zlC]
      refine' zb (i:=2) ?i21 (by kernel_rfl) (by kernel_rfl) (by kernel_rfl) (by kernel_rfl) ?q21 ?y21 hS ?r21
      case i21=>simp only[zlD,zlF,zlE];rfl
      case q21=>exact fun _ _ _ h=>h
      case y21=>
        refine Or.inl ⟨by rfl,?_⟩
        intro wq hq
        try dsimp only at hq
        go_simp
        try with_reducible rfl
      try simp only[Act.put,zlA,zlB,zlC]
      refine' zb (i:=3) ?i22 (by kernel_rfl) (by kernel_rfl) (by kernel_rfl) (by kernel_rfl) ?q22 ?y22 hS ?r22
      case i22=>simp only[zlD,zlF,zlE];rfl
      case q22=>exact fun _ _ _ h=>h
      case y22=>
        refine Or.inl ⟨by rfl,?_⟩
        intro wq hq
        try dsimp only at hq
        go_simp
        try with_reducible rfl
      try simp only[Act.put,zlA,zlB,zlC]
      refine' zb (i:=4) ?i23 (by kernel_rfl) (by kernel_rfl) (by kernel_rfl) (by kernel_rfl) ?q23 ?y23 hS ?r23
      case i23=>simp only[zlD,zlF,zlE];rfl
      case q23=>exact fun _ _ _ h=>h
      case y23=>
        refine Or.inl ⟨by rfl,?_⟩
        intro wq hq
        try dsimp only at hq
        go_simp
        try with_reducible rfl
      try simp only[Act.put,zlA,zlB,zlC]
      refine' zb (i:=5) ?i24 (by kernel_rfl) (by kernel_rfl) (by kernel_rfl) (by kernel_rfl) ?q24 ?y24 hS ?r24
      case i24=>simp only[zlD,zlF,zlE];rfl
      case q24=>exact fun _ _ _ h=>h
      case y24=>
        refine Or.inl ⟨by rfl,?_⟩
        intro wq hq
        try dsimp only at hq
        go_simp
        try with_reducible rfl
      try simp only[Act.put,zlA,zlB,zlC]
      refine' zb (i:=6) ?i25 (by kernel_rfl) (by kernel_rfl) (by kernel_rfl) (by kernel_rfl) ?q25 ?y25 hS ?r25
      case i25=>simp only[zlD,zlF,zlE];rfl
      case q25=>exact fun _ _ _ h=>h
      case y25=>
        refine Or.inl ⟨by rfl,?_⟩
        intro wq hq
        try dsimp only at hq
        go_simp
        try with_reducible rfl
      try simp only[Act.put,zlA,zlB,zlC]
      refine' zb (i:=7) ?i26 (by kernel_rfl) (by kernel_rfl) (by kernel_rfl) (by kernel_rfl) ?q26 ?y26 hS ?r26
      case i26=>simp only[zlD,zlF,zlE];rfl
      case q26=>exact fun _ _ _ h=>h
      case y26=>
        refine Or.inl ⟨by rfl,?_⟩
        intro wq hq
        try dsimp only at hq
        go_simp
        try with_reducible rfl
      try simp only[Act.put,zlA,zlB,zlC]
      refine' zb (i:=8) ?i27 (by kernel_rfl) (by kernel_rfl) (by kernel_rfl) (by kernel_rfl) ?q27 ?y27 hS ?r27
      case i27=>simp only[zlD,zlF,zlE];rfl
      case q27=>exact fun _ _ _ h=>h
      case y27=>
        refine Or.inl ⟨by rfl,?_⟩
        intro wq hq
        try dsimp only at hq
        go_simp
        try with_reducible rfl
      try simp only[Act.put,zlA,zlB,zlC]
      refine za (rs:=[9]) (by kernel_rfl) (by simp) ?_
      refine' ReadyL.cons ?o28 (fun K hK=>?s28) ReadyL.nil
      case o28=>simp only[zlD,zlF,zlE];rfl
      go_simp
      refine(zi4 k HC.out.drew.src hrl).mono ?_
      rintro r w5 ⟨x,rfl,hx,hs5,hv5⟩
      have H5:=Lib.hid (HC.out.drew.sv hs5 hv5)
      have HB5:Hid (Below g w w5):=HBC.out.drew.trans (hv5.below (by have:=HC.out.lt;exact Nat.le_of_lt this))
      have HX:Hid (x.ch=rest.take k/\OwnL w5 (g+1) x):=⟨hx.out.1,hx.out.2.mono HC.out.lt⟩
      refine hK.out _ _ (.inr H5.out.at5) ?_
      clear hK K hs5 hv5 hx hS h5
      try simp only[Act.put,zlA,zlB,zlC]
      refine za (rs:=[10]) (by kernel_rfl) (by simp) ?_
      refine' ReadyL.cons ?o29 (fun K hK=>?s29) ReadyL.nil
      case o29=>simp only[zlD,zlF,zlE];rfl
      go_simp
      have h5a:=H5.out.below ((Below.refl _ _).alloc (Nat.le_refl _) (.cells #[.string x.s,.slice x.A x.n x.c] 24))
      refine hK.out _ _ (.inr h5a.at5) ?_
      clear hK K
      try simp only[Act.put,zlA,zlB,zlC]
      refine za (rs:=[11]) (by kernel_rfl) (by simp) ?_
      refine' ReadyL.cons ?o30 (fun K hK=>?s30) ReadyL.nil
      case o30=>simp only[zlD,zlF,zlE];rfl
      refine zA _ (by rfl) (.tmp 30) (.tmp 36) 42 (by rfl) (g+1) 24 i0 _ 2 40 Tryz.underlying42 hi hz0 hz1 hz2 rfl (by omega) (.slice Ap us.length cp) us.length _ (by rfl) h5a.pcs _ (some ⟨w5.heap.size,0,none⟩) 1 1 [.string x.s,.slice x.A x.n x.c] (by rfl) (by simp) (by rfl) (zbv (Whole.made w5 _ _) rfl) (by simp [Value.oneCell']) (by simp only[maxLen];omega) (by omega) (by have:=h5a.lt;omega) ?_
      intro v2 w2 hown2 hgr2 _
      obtain⟨A2,c2,rfl,_,_,_⟩:=zh hown2
      have HM2:=Lib.hid (H5.out.pcMore (u:=x) (w2:=w2) HX.out.2 hgr2 hown2)
      have HSR2:Hid (Src w2 g L (rest.drop k) vt (.slice Ap us.length cp)/\Below (g+1) w5 w2):=⟨h5a.src.belowG (zaw h5a.pcs hgr2 h5a.lt),(((Below.refl _ _).alloc (Nat.le_refl _) _).mono (by have:=H5.out.lt;omega)).trans (zaw h5a.pcs hgr2 h5a.lt)⟩
      obtain⟨k5,kf5⟩:w2.cell? ⟨g,5,none⟩=some (.slice Ap us.length cp)/\w2.frozen? ⟨g,5,none⟩=false:=by
        obtain⟨A,n,c,k,hW⟩:=HSR2.out.1.cells
        exact⟨hW.at_ 5,hW.free 5⟩
      refine hK.out _ _ (.inr k5) ?_
      clear hK K hown2 hgr2 h5a
      try simp only[Act.put,zlA,zlB,zlC]
      refine za (rs:=[12]) (by kernel_rfl) (by simp) ?_
      refine' ReadyL.cons ?o31 (fun K hK=>?s31) ReadyL.nil
      case o31=>simp only[zlD,zlF,zlE];rfl
      go_simp
      refine hK.out _ _ (.inl (by decide)) ?_
      clear hK K
      try simp only[Act.put,zlA,zlB,zlC]
      refine za (rs:=[13]) (by kernel_rfl) (by simp) ?_
      refine' ReadyL.cons ?o32 (fun K hK=>?s32) ReadyL.nil
      case o32=>simp only[zlD,zlF,zlE];rfl
      go_simp
      refine hK.out _ _ (.inl (by decide)) ?_
      clear hK K
      try simp only[Act.put,zlA,zlB,zlC]
      refine za (rs:=[14]) (by kernel_rfl) (by simp) ?_
      refine' ReadyL.cons ?o33 (fun K hK=>?s33) ReadyL.nil
      case o33=>simp only[zlD,zlF,zlE];rfl
      go_simp
      refine hK.out _ _ (.inl (by decide)) ?_
      clear hK K
      try simp only[Act.put,zlA,zlB,zlC]
      refine zg (by kernel_rfl) ?_ _
      have HBZ:Hid (Below g w (w2.setCell ⟨g,5,none⟩ (.slice A2 (us.length+1) c2))):=(HB5.out.trans (HSR2.out.2.mono (Nat.le_succ _))).setCell (p:=⟨g,5,none⟩) (Nat.le_refl _) _
      go_wp2_with fail
      go_end0
      refine⟨rfl,⟨⟨ts,us++ [x],vt,_,HM2.out,rfl,by rw[List.map_append,List.map_singleton,HX.out.1,HXK.out]⟩,zbm HMX.out hlo HBZ.out,hlo⟩,HBZ.out⟩
def Few(toks:List PTok)(ps:List Ch):Prop:=toks.length<=1000000000/\ps.length<=1000000000/\ps.flatten.length<=268435456
theorem zga{us:List LT}:(zY us).length=((us.map LT.ch).flatten).length:=by rw[zdF]
theorem zmf(d:Ch)(e:ByteArray):∃ n,n<=d.length/\((⟨(Lib.cut (zi d).data.toList e.data.toList).1.toArray⟩:ByteArray)).size=n/\(Lib.index (d.map (·.1)) e.data.toList < 0->n=d.length)/\(¬ Lib.index (d.map (·.1)) e.data.toList < 0->n=(Lib.index (d.map (·.1)) e.data.toList).toNat):=by
  rw[zX]
  have hle:=zmv (d.map (·.1)) e.data.toList
  rw[List.length_map]at hle
  unfold Lib.cut
  by_cases h:Lib.index (d.map (·.1)) e.data.toList < 0
  . rw[if_neg (by omega)]
    refine⟨d.length,Nat.le_refl _,?_,fun _=>rfl,fun hn=>absurd h hn⟩
    show(d.map (·.1)).toArray.size=_
    simp
  . rw[if_pos (by omega)]
    refine⟨(Lib.index (d.map (·.1)) e.data.toList).toNat,by omega,?_,fun hn=>absurd hn h,fun _=>rfl⟩
    show((d.map (·.1)).take (Lib.index (d.map (·.1)) e.data.toList).toNat).toArray.size=_
    rw[List.size_toArray,List.length_take,List.length_map]
    omega
theorem zmg{m:Ch}{k n:Nat}{e:List UInt8}(h1:Lib.index ((m.drop k).map (·.1)) e < 0->n=(m.drop k).length)(h2:¬ Lib.index ((m.drop k).map (·.1)) e < 0->n=(Lib.index ((m.drop k).map (·.1)) e).toNat) :
    zbd m k e=((m.drop k).take n,((m.drop k).drop n).drop e.length):=by
  unfold zbd
  by_cases h:Lib.index ((m.drop k).map (·.1)) e < 0
  . rw[if_pos h,h1 h,List.take_length,List.drop_length]
    simp
  . rw[if_neg h,h2 h]
    refine Prod.ext rfl ?_
    simp only[List.drop_drop]
    congr 1
    omega
theorem zmh(x:LT)(l:Ch)(h:x.ch=l):(TK.mk 4 noLT13 none 0 0 [] false x).pt=zdk l:=by show PTok.mk 4 noLT13.ch [] false x.ch=_;rw[h,zcm];rfl
theorem zaW{g:Nat}{L rest:Ch}{toks:List PTok}{ps:List Ch}{mx:Int}(k:Nat)(e:ByteArray)(w:World)(h:RdS w g L rest toks ps mx)(hf:Few toks ps)(hk:k<=4)(he:e.size<=4) :
    Calls Tryz.prog 67 #[.pointer (some ⟨g,0,none⟩),.int .i64 (k:Int),.string e] w (zj6 g L mx (zP toks ps++ [zdk (zbd rest k e.data.toList).1],[],(zbd rest k e.data.toList).2) w):=by
  have hlt:=h.lt
  have hlo:=h.lo
  have hlen:=h.len
  have HMX:=Lib.hid h.mx
  have hel:e.data.toList.length=e.size:=by rw[Array.length_toList];rfl
  obtain⟨ts,us,vt,vp,hr,rfl,rfl⟩:=h.ex
  obtain⟨hf1,hf2,hf3⟩:=hf
  rw[List.length_map]at hf1 hf2
  rw[<-zga]at hf3
  have H:=Lib.hid hr
  obtain⟨n,hn1,hn2,hn3,hn4⟩:=zmf (rest.drop k) e
  have HQ:=Lib.hid (zmg hn3 hn4)
  have hdl:(rest.drop k).length<=268435456:=by rw[List.length_drop];omega
  have hts:(zi (rest.drop k)).size<=4294967280:=by rw[zG];omega
  have HCUT:Hid (∀ V,Below g w V->Calls Tryz.prog 112 #[.string (zi (rest.drop k)),.string e] V fun r w'=>r=.returned (.tuple #[.string ⟨(Lib.cut (zi (rest.drop k)).data.toList e.data.toList).1.toArray⟩,.string ⟨(Lib.cut (zi (rest.drop k)).data.toList e.data.toList).2.1.toArray⟩,.bool (Lib.cut (zi (rest.drop k)).data.toList e.data.toList).2.2])/\∃ n,w'=V.drewN n):=fun V hV=>Tryz.strings_Cut (zi (rest.drop k)) e mx V (by omega) (zbm HMX.out hlo hV)
  have HADD:Hid (∀ (V:World) (x:LT),RdV V g L ((rest.drop k).drop n) ts us vt vp->OwnL V (g+1) x->Calls Tryz.prog 109 #[.pointer (some ⟨g,0,none⟩),.agg #[.int .i64 4,.string ⟨#[]⟩,.slice none 0 0,.slice none 0 0,.bool false,.string x.s,.slice x.A x.n x.c]] V fun e w'=>e=.returned (.tuple #[])/\∃ ts' vt' vp',RdV w' g L ((rest.drop k).drop n) ts' [] vt' vp'/\ts'.map TK.pt=zP (ts.map TK.pt) (us.map LT.ch)++ [(TK.mk 4 noLT13 none 0 0 [] false x).pt]/\Moved (SG g vt) V w'):=
    fun V x hV hx=>zmd ⟨4,noLT13,none,0,0,[],false,x⟩ V hV ⟨zbQ _ _,World.ownsRow_nil _ _ _ _,rfl,(by intro t ht;cases ht),hx⟩ hf1 (by omega) hf3
  generalize (Lib.cut (zi (rest.drop k)).data.toList e.data.toList)=q at *
  generalize (⟨q.1.toArray⟩:ByteArray)=qa at *
  have hqs:(qa.size:Int)=(n:Int):=by rw[hn2]
  have HEL:=Lib.hid hel
  have hb:g+1<=w.heap.size:=hlt
  have HVT:Hid (∀ b,vt.ownBlock=some b->g+1<=b):=fun b hb=>(hr.tok.lt b hb).1
  clear hn2 hn3 hn4 hts h hr hel hf1 hf2 hf3
  go_enter Tryz.func67,Tryz.ntmps67
  go_wp2_with fail
  refine(zcD k H.out.src (by omega)).mono ?_
  rintro r w1 ⟨rfl,hs1,hv1⟩
  have H1:=Lib.hid (H.out.sv hs1 hv1)
  have HB1:Hid (Below g w w1):=hv1.below (Nat.le_of_lt hlt)
  clear hs1 hv1
  go_wp2_with fail
  refine(zfm H1.out.src).mono ?_
  rintro r w2 ⟨rfl,n2,rfl⟩
  have H2:=Lib.hid (H1.out.drewN n2)
  have HB2:Hid (Below g w (w1.drewN n2)):=HB1.out.drewN n2
  generalize w1.drewN n2=w2 at *
  go_wp2_with fail
  refine(HCUT.out w2 HB2.out).mono ?_
  rintro r w3 ⟨rfl,n3,rfl⟩
  have H3:=Lib.hid (H2.out.drewN n3)
  have HB3:Hid (Below g w (w2.drewN n3)):=HB2.out.drewN n3
  generalize w2.drewN n3=w3 at *
  clear HCUT H1 H2 HB1 HB2
  go_wp2_with fail
  refine(zi4 n H3.out.src hn1).mono ?_
  rintro r w4 ⟨x,rfl,hx,hs4,hv4⟩
  have H4:=Lib.hid (H3.out.sv hs4 hv4)
  have HB4:Hid (Below g w w4):=HB3.out.trans (hv4.below (Nat.le_of_lt H3.out.lt))
  have HX:Hid (x.ch=(rest.drop k).take n/\OwnL w4 (g+1) x):=⟨hx.out.1,hx.out.2.mono H3.out.lt⟩
  clear hs4 hv4 hx
  go_wp2_with fail
  refine(HADD.out w4 x H4.out HX.out.2).mono ?_
  rintro r w5 ⟨rfl,ts',vt',vp',hr5,hp5,hm5⟩
  have H5:=Lib.hid hr5
  have HP5:=Lib.hid hp5
  have HB5:Hid (Below g w w5):=HB4.out.trans (hm5.below (Nat.le_of_lt H4.out.lt) (fun b hb hs=>by
    rcases hs with hs | hs
    . omega
    . have:=HVT.out b hs;omega))
  clear hr5 hp5 hm5
  go_wp2_with fail
  refine(zcD e.size H5.out.src (by omega)).mono ?_
  rintro r w6 ⟨rfl,hs6,hv6⟩
  have H6:=Lib.hid (H5.out.sv hs6 hv6)
  have HB6:Hid (Below g w w6):=HB5.out.trans (hv6.below (Nat.le_of_lt H5.out.lt))
  clear hs6 hv6
  go_wp2_with fail
  go_end0
  refine⟨rfl,⟨⟨ts',[],vt',vp',?_,?_,rfl⟩,zbm HMX.out hlo HB6.out,hlo⟩,HB6.out⟩
  . rw[HQ.out,HEL.out];exact H6.out
  . rw[HP5.out,HQ.out,zmh x _ HX.out.1]
theorem zpb(t:TK):t.pt.name.map (·.1)=t.nm.s.data.toList:=LT.ch_fst t.nm
theorem zpc{s:List UInt8}(h:(s == [115,99,114,105,112,116] || s == [115,116,121,108,101])=true):s.map lowB=s/\s.length<=100:=by
  rw[Bool.or_eq_true,beq_iff_eq,beq_iff_eq]at h
  rcases h with rfl | rfl
  . exact⟨by decide,by decide⟩
  . exact⟨by decide,by decide⟩
theorem zj7{toks:List PTok}{ps:List Ch}{m:Ch}(h:zaf m=true)(hq:tagQ m=none):zaD toks ps m=(toks,ps,[]):=by unfold zaD;rw[if_pos h,hq]
theorem zhj{toks:List PTok}{ps:List Ch}{m r:Ch}{t:PTok}(h:zaf m=true)(hq:tagQ m=some (t,r))(hr:(decide (t.kind=1) && zck t.name)=false):zaD toks ps m=(zP toks ps++ [t],[],r):=by
  unfold zaD;rw[if_pos h,hq]
  show(if _ then _ else _)=_
  rw[if_neg (by rw[hr];decide)]
theorem zmi{toks:List PTok}{ps:List Ch}{m r:Ch}{t:PTok}(h:zaf m=true)(hq:tagQ m=some (t,r))(hr:(decide (t.kind=1) && zck t.name)=true):zaD toks ps m=(zP toks ps++ [t],[]++ (if rawT (t.name.map (·.1)) r=0 then [] else [r.take (rawT (t.name.map (·.1)) r)]),r.drop (rawT (t.name.map (·.1)) r)):=by
  unfold zaD;rw[if_pos h,hq]
  show(if _ then _ else _)=_
  rw[if_pos hr,List.nil_append]
theorem zj8(s:ByteArray):((⟨#[60,47]⟩:ByteArray)++ s).data.toList=[60,47]++ s.data.toList:=by rw[ByteArray.data_append,Array.toList_append]
theorem zeQ{g:Nat}{L rest:Ch}{toks:List PTok}{ps:List Ch}{mx:Int}(w:World)(h:RdS w g L rest toks ps mx)(hf:Few toks ps)(hat:zaf rest=true) :
    Calls Tryz.prog 64 #[.pointer (some ⟨g,0,none⟩)] w (zj6 g L mx (zaD toks ps rest) w):=by
  have hlt:=h.lt
  have hlo:=h.lo
  have HMX:=Lib.hid h.mx
  obtain⟨ts,us,vt,vp,hr,rfl,rfl⟩:=h.ex
  obtain⟨hf1,hf2,hf3⟩:=hf
  rw[List.length_map]at hf1 hf2
  rw[<-zga]at hf3
  have H:=Lib.hid hr
  have HVT:Hid (∀ b,vt.ownBlock=some b->g+1<=b/\b < w.heap.size):=fun b hb=>hr.tok.lt b hb
  have HAT:=Lib.hid hat
  have HRT:=Lib.hid (zh7 w hr.src hat)
  clear h hr hat
  have hgG:g<=w.heap.size:=Nat.le_of_lt hlt
  cases hq:tagQ rest with
  | none=>
    have HV:=Lib.hid (zj7 (toks:=ts.map TK.pt) (ps:=us.map LT.ch) HAT.out hq)
    rw[hq]at HRT
    have HRN:Hid (Calls Tryz.prog 108 #[.pointer (some ⟨g,0,none⟩)] w fun e w'=>e=.returned (.tuple #[.agg #[.int .i64 0,.string ⟨#[]⟩,.slice none 0 0,.slice none 0 0,.bool false,.string ⟨#[]⟩,.slice none 0 0],.bool false])/\Src w' g L [] vt vp/\Sv g w w'):=HRT.out
    rw[HV.out]
    clear hq HRT
    go_enter Tryz.func64,Tryz.ntmps64
    go_wp2_with fail
    refine HRN.out.mono ?_
    rintro r w1 ⟨rfl,hs1,hv1⟩
    have HB1:Hid (Below g w w1):=hv1.below hgG
    have H1:=Lib.hid (H.out.sv hs1 hv1)
    clear hs1 hv1
    go_wp2_with fail
    (try simp only[Exit.inBlock,Exit.then])
    refine bodyPost_ret (results_none rfl _ _ _) rfl ?_
    have hb2:=(Below.refl w1.heap.size w1).alloc (Nat.le_refl _) (.cells #[.int .i64 0,.string ⟨#[]⟩,.slice none 0 0,.slice none 0 0,.bool false,.string ⟨#[]⟩,.slice none 0 0] 98)
    have hbz:=HB1.out.trans (hb2.mono (Nat.le_of_lt H1.out.lt))
    exact⟨rfl,⟨⟨ts,us,vt,vp,H1.out.below hb2,rfl,rfl⟩,zbm HMX.out hlo hbz,hlo⟩,hbz⟩
  | some x=>
    obtain⟨t,r⟩:=x
    have HQT:=Lib.hid hq
    rw[hq]at HRT
    have HRN:Hid (Calls Tryz.prog 108 #[.pointer (some ⟨g,0,none⟩)] w fun e w'=>∃ k:TK,e=.returned (.tuple #[.agg #[.int .i64 (k.kind:Int),.string k.nm.s,.slice k.nm.A k.nm.n k.nm.c,.slice k.A k.n k.c,.bool k.close,.string k.tx.s,.slice k.tx.A k.tx.n k.tx.c],.bool true])/\Hid (k.pt=t/\OwnT w' w.heap.size k)/\Src w' g L r vt vp/\Sv g w w'):=HRT.out
    have HADD:Hid (∀ (V:World) (k:TK),RdV V g L r ts us vt vp->OwnT V (g+1) k->Calls Tryz.prog 109 #[.pointer (some ⟨g,0,none⟩),.agg #[.int .i64 (k.kind:Int),.string k.nm.s,.slice k.nm.A k.nm.n k.nm.c,.slice k.A k.n k.c,.bool k.close,.string k.tx.s,.slice k.tx.A k.tx.n k.tx.c]] V fun e w'=>e=.returned (.tuple #[])/\∃ ts' vt' vp',RdV w' g L r ts' [] vt' vp'/\ts'.map TK.pt=zP (ts.map TK.pt) (us.map LT.ch)++ [k.pt]/\Moved (SG g vt) V w'):=
      fun V k hV hk=>zmd k V hV hk hf1 (by omega) hf3
    clear hq HRT hf1 hf2 hf3
    obtain⟨Z,hZ⟩:∃ Z,zaD (ts.map TK.pt) (us.map LT.ch) rest=Z:=⟨_,rfl⟩
    rw[hZ]
    have HZ:=Lib.hid hZ
    clear hZ
    go_enter Tryz.func64,Tryz.ntmps64
    go_wp2_with fail
    refine HRN.out.mono ?_
    rintro e w1 ⟨k,rfl,hk,hs1,hv1⟩
    have HB1:Hid (Below g w w1):=hv1.below hgG
    have H1:=Lib.hid (H.out.sv hs1 hv1)
    have HK1:Hid (k.pt=t/\OwnT w1 (g+1) k):=⟨hk.out.1,hk.out.2.mono hlt⟩
    have hz1:w.heap.size<=w1.heap.size:=hv1.size
    clear hs1 hv1 hk HRN
    generalize hw2:w1.alloc (.cells #[.int .i64 (k.kind:Int),.string k.nm.s,.slice k.nm.A k.nm.n k.nm.c,.slice k.A k.n k.c,.bool k.close,.string k.tx.s,.slice k.tx.A k.tx.n k.tx.c] 98)=w2
    have Y2:Hid (Whole w2 w1.heap.size 98 #[.int .i64 (k.kind:Int),.string k.nm.s,.slice k.nm.A k.nm.n k.nm.c,.slice k.A k.n k.c,.bool k.close,.string k.tx.s,.slice k.tx.A k.tx.n k.tx.c]):=by rw[<-hw2];exact Whole.made _ _ _
    have hb2:Below w1.heap.size w1 w2:=by rw[<-hw2];exact(Below.refl _ _).alloc (Nat.le_refl _) _
    have H2:=Lib.hid (H1.out.below hb2)
    have HK2:Hid (k.pt=t/\OwnT w2 (g+1) k):=⟨HK1.out.1,HK1.out.2.below hb2⟩
    have HB2:Hid (Below g w w2):=HB1.out.trans (hb2.mono (Nat.le_of_lt H1.out.lt))
    have hy2:=Y2.out
    have c0:=hy2.at_ 0
    have c1:=hy2.at_ 1
    have c2:=hy2.at_ 2
    have c3:=hy2.at_ 3
    have c4:=hy2.at_ 4
    have c5:=hy2.at_ 5
    have c6:=hy2.at_ 6
    clear hb2 hy2 H1 HK1 HB1
    go_wp2_with fail
    refine(HADD.out w2 k H2.out HK2.out.2).mono ?_
    rintro e w3 ⟨rfl,ts',vt',vp',hr3,hp3,hm3⟩
    have y3:=hm3.whole Y2.out (by
      rintro(h | h)
      . omega
      . have:=(HVT.out _ h).2;omega)
    have H3:=Lib.hid hr3
    have HP3:Hid (ts'.map TK.pt=zP (ts.map TK.pt) (us.map LT.ch)++ [t]):=by show _=_;rw[hp3,HK2.out.1]
    have HB3:Hid (Below g w w3):=HB2.out.trans (hm3.below (Nat.le_of_lt H2.out.lt) (fun b hb hs=>by
      rcases hs with hs | hs
      . omega
      . have:=(HVT.out b hs).1;omega))
    have d0:=y3.at_ 0
    have d1:=y3.at_ 1
    have HIR:=fun V=>Lib.hid (zh8 k.nm.s V)
    have HNM:Hid (t.name.map (·.1)=k.nm.s.data.toList/\t.kind=k.kind):=⟨by rw[<-HK2.out.1];exact zpb k,by rw[<-HK2.out.1];rfl⟩
    have HRN2:Hid (zck t.name=(k.nm.s.data.toList == [115,99,114,105,112,116] || k.nm.s.data.toList == [115,116,121,108,101])):=by show _=_;unfold zck;rw[HNM.out.1]
    clear hr3 hp3 hm3 y3 c0 c1 c2 c3 c4 c5 c6 hw2
    by_cases hk1:k.kind=1
    . have hki:((k.kind:Int) == 1)=true:=by rw[hk1];rfl
      obtain⟨rw1,hrw1⟩:∃ b,(k.nm.s.data.toList == [115,99,114,105,112,116] || k.nm.s.data.toList == [115,116,121,108,101])=b:=⟨_,rfl⟩
      rw[hrw1]at HIR HRN2
      have HK:=Lib.hid hk1
      have HRW:=Lib.hid hrw1
      clear hk1 hrw1
      cases rw1 with
      | true=>
        have HZV:=Lib.hid (zmi (toks:=ts.map TK.pt) (ps:=us.map LT.ch) HAT.out HQT.out (by rw[HRN2.out,HNM.out.2,HK.out];rfl))
        have hlow:=zpc HRW.out
        have hkl:k.nm.s.size<=100:=by have:=hlow.2;rw[Array.length_toList]at this;exact this
        have hcc:¬ 9223372036854775807 < ((ByteArray.mk #[60,47]).size:Int)+(k.nm.s.size:Int):=by rw[show(ByteArray.mk #[60,47]).size=2 from rfl];omega
        have hcc2:¬ (9223372036854775807:Int) < 2+(k.nm.s.size:Int):=by omega
        have hcc3:¬ 9223372036854775807 < 2+k.nm.s.size:=by omega
        have HSL:=Lib.hid (zj8 k.nm.s)
        have HLOW:=Lib.hid hlow
        clear hlow
        go_wp2_with fail
        refine(HIR _).out.mono ?_
        rintro e w4 ⟨rfl,hw4⟩
        rw[hw4]
        go_wp2_with fail
        refine(zia (ps:=[]) (toks:=ts'.map TK.pt) (mx:=mx) ((⟨#[60,47]⟩:ByteArray)++ k.nm.s) k.nm.s.data.toList _ ⟨⟨ts',[],vt',vp',H3.out,rfl,rfl⟩,zbm HMX.out hlo HB3.out,hlo⟩ HSL.out HLOW.out.1 HLOW.out.2 (by show 0<=_;omega)).mono ?_
        rintro e w5 ⟨rfl,hr5,hb5⟩
        have HR5:=Lib.hid hr5
        have HB5:Hid (Below g w w5):=HB3.out.trans hb5
        clear hr5 hb5
        go_wp2_with fail
        go_end0
        rw[<-HZ.out,HZV.out,HNM.out.1,<-HP3.out]
        exact⟨rfl,HR5.out,HB5.out⟩
      | false=>
        have HZV:=Lib.hid (zhj (toks:=ts.map TK.pt) (ps:=us.map LT.ch) HAT.out HQT.out (by rw[HRN2.out,Bool.and_false]))
        go_wp2_with fail
        refine(HIR _).out.mono ?_
        rintro e w4 ⟨rfl,hw4⟩
        rw[hw4]
        go_wp2_with fail
        go_end0
        rw[<-HZ.out,HZV.out,<-HP3.out]
        exact⟨rfl,⟨⟨ts',[],vt',vp',H3.out,rfl,rfl⟩,zbm HMX.out hlo HB3.out,hlo⟩,HB3.out⟩
    . have hki:((k.kind:Int) == 1)=false:=by rw[beq_eq_false_iff_ne];omega
      have HK:=Lib.hid hk1
      have HZV:=Lib.hid (zhj (toks:=ts.map TK.pt) (ps:=us.map LT.ch) HAT.out HQT.out (by rw[HNM.out.2,decide_eq_false hk1,Bool.false_and]))
      clear hk1
      go_wp2_with fail
      go_end0
      rw[<-HZ.out,HZV.out,<-HP3.out]
      exact⟨rfl,⟨⟨ts',[],vt',vp',H3.out,rfl,rfl⟩,zbm HMX.out hlo HB3.out,hlo⟩,HB3.out⟩
theorem RdS.passed{w:World}{g:Nat}{L rest r':Ch}{toks:List PTok}{ps:List Ch}{mx:Int}(h:RdS w g L rest toks ps mx)(n:Nat)(hn:n<=268435456)(hr:r'=rest.drop n) :
    Calls Tryz.prog 66 #[.pointer (some ⟨g,0,none⟩),.int .i64 (n:Int)] w (zj6 g L mx (toks,ps,r') w):=by
  subst hr
  have hlt:=h.lt
  have hlo:=h.lo
  have hmx:=h.mx
  obtain⟨ts,us,vt,vp,hr,rfl,rfl⟩:=h.ex
  refine(zcD n hr.src hn).mono ?_
  rintro e w' ⟨rfl,hs,hv⟩
  have hb:Below g w w':=hv.below (Nat.le_of_lt hlt)
  exact⟨rfl,⟨⟨ts,us,vt,vp,hr.sv hs hv,rfl,rfl⟩,zbm hmx hlo hb,hlo⟩,hb⟩
theorem zpd{toks:List PTok}{ps:List Ch}{m:Ch}(h1:zaf m=false)(h2:isA [60,47,62] m=true):zaD toks ps m=(toks,ps,m.drop 3):=by unfold zaD;rw[if_neg (by rw[h1];decide),if_pos h2]
theorem zpe{toks:List PTok}{ps:List Ch}{m:Ch}(h1:zaf m=false)(h2:isA [60,47,62] m=false)(h3:isA [60,33,45,45] m=true):zaD toks ps m=(zP toks ps++ [zdk (zbd m 4 [45,45,62]).1],[],(zbd m 4 [45,45,62]).2):=by
  unfold zaD;rw[if_neg (by rw[h1];decide),if_neg (by rw[h2];decide),if_pos h3]
theorem zib{toks:List PTok}{ps:List Ch}{m:Ch}(h1:zaf m=false)(h2:isA [60,47,62] m=false)(h3:isA [60,33,45,45] m=false)(h4:(isA [60,33] m || (isA [60,63] m || (isA [60,47] m && !(m.map (·.1) == [60,47]))))=true):zaD toks ps m=(zP toks ps++ [zdk (zbd m 2 [62]).1],[],(zbd m 2 [62]).2):=by
  unfold zaD;rw[if_neg (by rw[h1];decide),if_neg (by rw[h2];decide),if_neg (by rw[h3];decide),if_pos h4]
theorem zmj{toks:List PTok}{ps:List Ch}{m:Ch}(h1:zaf m=false)(h2:isA [60,47,62] m=false)(h3:isA [60,33,45,45] m=false)(h4:(isA [60,33] m || (isA [60,63] m || (isA [60,47] m && !(m.map (·.1) == [60,47]))))=false):zaD toks ps m=(toks,ps++ [decE (m.take (1+ltT m.tail))],m.drop (1+ltT m.tail)):=by
  unfold zaD;rw[if_neg (by rw[h1];decide),if_neg (by rw[h2];decide),if_neg (by rw[h3];decide),if_neg (by rw[h4];decide)]
theorem znP{g:Nat}{L rest:Ch}{toks:List PTok}{ps:List Ch}{mx:Int}(w:World)(h:RdS w g L rest toks ps mx)(hf:Few toks ps)(hne:rest≠[]) :
    Calls Tryz.prog 35 #[.pointer (some ⟨g,0,none⟩)] w (zj6 g L mx (zaD toks ps rest) w):=by
  have H0:=Lib.hid h
  obtain⟨Z,hZ⟩:∃ Z,zaD toks ps rest=Z:=⟨_,rfl⟩
  rw[hZ]
  have HZ:=Lib.hid hZ
  clear hZ h
  cases hat:zaf rest with
  | true=>
    have HV:Hid (zaD toks ps rest=zaD toks ps rest):=rfl
    have HAT:=Lib.hid hat
    go_enter Tryz.func35,Tryz.ntmps35
    go_wp2_with fail
    refine(za8 w H0.out.src.choose_spec.choose_spec).mono ?_
    rintro r w1 ⟨rfl,n1,rfl⟩
    rw[hat]
    have H1:=Lib.hid (H0.out.below ((Below.refl _ _).drewN n1))
    have HS1:=Lib.hid H1.out.src
    have HB1:Hid (Below g w (w.drewN n1)):=(Below.refl _ _).drewN n1
    generalize w.drewN n1=w1 at *
    go_wp2_with fail
    refine(zeQ w1 H1.out hf HAT.out).mono ?_
    rintro r wz ⟨rfl,hr,hb⟩
    have HR:=Lib.hid hr
    have HBZ:Hid (Below g w wz):=HB1.out.trans hb
    clear hr hb
    go_wp2_with fail
    go_end0
    rw[<-HZ.out]
    exact⟨rfl,HR.out,HBZ.out⟩
  | false=>
  cases h3:isA [60,47,62] rest with
  | true=>
    have HV:=Lib.hid (zpd (toks:=toks) (ps:=ps) hat h3)
    go_enter Tryz.func35,Tryz.ntmps35
    go_wp2_with fail
    refine(za8 w H0.out.src.choose_spec.choose_spec).mono ?_
    rintro r w1 ⟨rfl,n1,rfl⟩
    rw[hat]
    have H1:=Lib.hid (H0.out.below ((Below.refl _ _).drewN n1))
    have HS1:=Lib.hid H1.out.src
    have HB1:Hid (Below g w (w.drewN n1)):=(Below.refl _ _).drewN n1
    generalize w.drewN n1=w1 at *
    go_wp2_with fail
    refine(zK ⟨#[60,47,62]⟩ HS1.out.choose_spec.choose_spec).mono ?_
    rintro r w2 ⟨rfl,n2,rfl⟩
    rw[show isA (ByteArray.mk #[60,47,62]).data.toList rest=true from h3]
    have H2:=Lib.hid (H1.out.below ((Below.refl _ _).drewN n2))
    have HS2:=Lib.hid H2.out.src
    have HB2:Hid (Below g w (w1.drewN n2)):=HB1.out.drewN n2
    generalize w1.drewN n2=w2 at *
    clear H1 HS1 HB1
    go_wp2_with fail
    refine(H2.out.passed 3 (by omega) rfl).mono ?_
    rintro r wz ⟨rfl,hr,hb⟩
    have HR:=Lib.hid hr
    have HBZ:Hid (Below g w wz):=HB2.out.trans hb
    clear hr hb
    go_wp2_with fail
    go_end0
    rw[<-HZ.out,HV.out]
    exact⟨rfl,HR.out,HBZ.out⟩
  | false=>
  cases h4:isA [60,33,45,45] rest with
  | true=>
    have HV:=Lib.hid (zpe (toks:=toks) (ps:=ps) hat h3 h4)
    go_enter Tryz.func35,Tryz.ntmps35
    go_wp2_with fail
    refine(za8 w H0.out.src.choose_spec.choose_spec).mono ?_
    rintro r w1 ⟨rfl,n1,rfl⟩
    rw[hat]
    have H1:=Lib.hid (H0.out.below ((Below.refl _ _).drewN n1))
    have HS1:=Lib.hid H1.out.src
    have HB1:Hid (Below g w (w.drewN n1)):=(Below.refl _ _).drewN n1
    generalize w.drewN n1=w1 at *
    go_wp2_with fail
    refine(zK ⟨#[60,47,62]⟩ HS1.out.choose_spec.choose_spec).mono ?_
    rintro r w2 ⟨rfl,n2,rfl⟩
    rw[show isA (ByteArray.mk #[60,47,62]).data.toList rest=false from h3]
    have H2:=Lib.hid (H1.out.below ((Below.refl _ _).drewN n2))
    have HS2:=Lib.hid H2.out.src
    have HB2:Hid (Below g w (w1.drewN n2)):=HB1.out.drewN n2
    generalize w1.drewN n2=w2 at *
    clear H1 HS1 HB1
    go_wp2_with fail
    refine(zK ⟨#[60,33,45,45]⟩ HS2.out.choose_spec.choose_spec).mono ?_
    rintro r w3 ⟨rfl,n3,rfl⟩
    rw[show isA (ByteArray.mk #[60,33,45,45]).data.toList rest=true from h4]
    have H3:=Lib.hid (H2.out.below ((Below.refl _ _).drewN n3))
    have HS3:=Lib.hid H3.out.src
    have HB3:Hid (Below g w (w2.drewN n3)):=HB2.out.drewN n3
    generalize w2.drewN n3=w3 at *
    clear H2 HS2 HB2
    go_wp2_with fail
    refine(zaW 4 ⟨#[45,45,62]⟩ w3 H3.out hf (by omega) (by decide)).mono ?_
    rintro r wz ⟨rfl,hr,hb⟩
    have HR:=Lib.hid hr
    have HBZ:Hid (Below g w wz):=HB3.out.trans hb
    clear hr hb
    go_wp2_with fail
    go_end0
    rw[<-HZ.out,HV.out]
    exact⟨rfl,HR.out,HBZ.out⟩
  | false=>
  cases h5:isA [60,33] rest with
  | true=>
    have HV:=Lib.hid (zib (toks:=toks) (ps:=ps) hat h3 h4 (by rw[h5];rfl))
    go_enter Tryz.func35,Tryz.ntmps35
    go_wp2_with fail
    refine(za8 w H0.out.src.choose_spec.choose_spec).mono ?_
    rintro r w1 ⟨rfl,n1,rfl⟩
    rw[hat]
    have H1:=Lib.hid (H0.out.below ((Below.refl _ _).drewN n1))
    have HS1:=Lib.hid H1.out.src
    have HB1:Hid (Below g w (w.drewN n1)):=(Below.refl _ _).drewN n1
    generalize w.drewN n1=w1 at *
    go_wp2_with fail
    refine(zK ⟨#[60,47,62]⟩ HS1.out.choose_spec.choose_spec).mono ?_
    rintro r w2 ⟨rfl,n2,rfl⟩
    rw[show isA (ByteArray.mk #[60,47,62]).data.toList rest=false from h3]
    have H2:=Lib.hid (H1.out.below ((Below.refl _ _).drewN n2))
    have HS2:=Lib.hid H2.out.src
    have HB2:Hid (Below g w (w1.drewN n2)):=HB1.out.drewN n2
    generalize w1.drewN n2=w2 at *
    clear H1 HS1 HB1
    go_wp2_with fail
    refine(zK ⟨#[60,33,45,45]⟩ HS2.out.choose_spec.choose_spec).mono ?_
    rintro r w3 ⟨rfl,n3,rfl⟩
    rw[show isA (ByteArray.mk #[60,33,45,45]).data.toList rest=false from h4]
    have H3:=Lib.hid (H2.out.below ((Below.refl _ _).drewN n3))
    have HS3:=Lib.hid H3.out.src
    have HB3:Hid (Below g w (w2.drewN n3)):=HB2.out.drewN n3
    generalize w2.drewN n3=w3 at *
    clear H2 HS2 HB2
    go_wp2_with fail
    refine(zK ⟨#[60,33]⟩ HS3.out.choose_spec.choose_spec).mono ?_
    rintro r w4 ⟨rfl,n4,rfl⟩
    rw[show isA (ByteArray.mk #[60,33]).data.toList rest=true from h5]
    have H4:=Lib.hid (H3.out.below ((Below.refl _ _).drewN n4))
    have HS4:=Lib.hid H4.out.src
    have HB4:Hid (Below g w (w3.drewN n4)):=HB3.out.drewN n4
    generalize w3.drewN n4=w4 at *
    clear H3 HS3 HB3
    go_wp2_with fail
    refine(zaW 2 ⟨#[62]⟩ w4 H4.out hf (by omega) (by decide)).mono ?_
    rintro r wz ⟨rfl,hr,hb⟩
    have HR:=Lib.hid hr
    have HBZ:Hid (Below g w wz):=HB4.out.trans hb
    clear hr hb
    go_wp2_with fail
    go_end0
    rw[<-HZ.out,HV.out]
    exact⟨rfl,HR.out,HBZ.out⟩
  | false=>
  cases h6:isA [60,63] rest with
  | true=>
    have HV:=Lib.hid (zib (toks:=toks) (ps:=ps) hat h3 h4 (by rw[h5,h6];rfl))
    go_enter Tryz.func35,Tryz.ntmps35
    go_wp2_with fail
    refine(za8 w H0.out.src.choose_spec.choose_spec).mono ?_
    rintro r w1 ⟨rfl,n1,rfl⟩
    rw[hat]
    have H1:=Lib.hid (H0.out.below ((Below.refl _ _).drewN n1))
    have HS1:=Lib.hid H1.out.src
    have HB1:Hid (Below g w (w.drewN n1)):=(Below.refl _ _).drewN n1
    generalize w.drewN n1=w1 at *
    go_wp2_with fail
    refine(zK ⟨#[60,47,62]⟩ HS1.out.choose_spec.choose_spec).mono ?_
    rintro r w2 ⟨rfl,n2,rfl⟩
    rw[show isA (ByteArray.mk #[60,47,62]).data.toList rest=false from h3]
    have H2:=Lib.hid (H1.out.below ((Below.refl _ _).drewN n2))
    have HS2:=Lib.hid H2.out.src
    have HB2:Hid (Below g w (w1.drewN n2)):=HB1.out.drewN n2
    generalize w1.drewN n2=w2 at *
    clear H1 HS1 HB1
    go_wp2_with fail
    refine(zK ⟨#[60,33,45,45]⟩ HS2.out.choose_spec.choose_spec).mono ?_
    rintro r w3 ⟨rfl,n3,rfl⟩
    rw[show isA (ByteArray.mk #[60,33,45,45]).data.toList rest=false from h4]
    have H3:=Lib.hid (H2.out.below ((Below.refl _ _).drewN n3))
    have HS3:=Lib.hid H3.out.src
    have HB3:Hid (Below g w (w2.drewN n3)):=HB2.out.drewN n3
    generalize w2.drewN n3=w3 at *
    clear H2 HS2 HB2
    go_wp2_with fail
    refine(zK ⟨#[60,33]⟩ HS3.out.choose_spec.choose_spec).mono ?_
    rintro r w4 ⟨rfl,n4,rfl⟩
    rw[show isA (ByteArray.mk #[60,33]).data.toList rest=false from h5]
    have H4:=Lib.hid (H3.out.below ((Below.refl _ _).drewN n4))
    have HS4:=Lib.hid H4.out.src
    have HB4:Hid (Below g w (w3.drewN n4)):=HB3.out.drewN n4
    generalize w3.drewN n4=w4 at *
    clear H3 HS3 HB3
    go_wp2_with fail
    refine(zK ⟨#[60,63]⟩ HS4.out.choose_spec.choose_spec).mono ?_
    rintro r w5 ⟨rfl,n5,rfl⟩
    rw[show isA (ByteArray.mk #[60,63]).data.toList rest=true from h6]
    have H5:=Lib.hid (H4.out.below ((Below.refl _ _).drewN n5))
    have HS5:=Lib.hid H5.out.src
    have HB5:Hid (Below g w (w4.drewN n5)):=HB4.out.drewN n5
    generalize w4.drewN n5=w5 at *
    clear H4 HS4 HB4
    go_wp2_with fail
    refine(zaW 2 ⟨#[62]⟩ w5 H5.out hf (by omega) (by decide)).mono ?_
    rintro r wz ⟨rfl,hr,hb⟩
    have HR:=Lib.hid hr
    have HBZ:Hid (Below g w wz):=HB5.out.trans hb
    clear hr hb
    go_wp2_with fail
    go_end0
    rw[<-HZ.out,HV.out]
    exact⟨rfl,HR.out,HBZ.out⟩
  | false=>
  obtain⟨c,m,rfl⟩:∃ c m,rest=c::m:=by
    cases rest with
    | nil=>exact absurd rfl hne
    | cons c m=>exact⟨c,m,rfl⟩
  cases h7:isA [60,47] (c::m) with
  | false=>
    have HV:=Lib.hid (zmj (toks:=toks) (ps:=ps) hat h3 h4 (by rw[h5,h6,h7];rfl))
    go_enter Tryz.func35,Tryz.ntmps35
    go_wp2_with fail
    refine(za8 w H0.out.src.choose_spec.choose_spec).mono ?_
    rintro r w1 ⟨rfl,n1,rfl⟩
    rw[hat]
    have H1:=Lib.hid (H0.out.below ((Below.refl _ _).drewN n1))
    have HS1:=Lib.hid H1.out.src
    have HB1:Hid (Below g w (w.drewN n1)):=(Below.refl _ _).drewN n1
    generalize w.drewN n1=w1 at *
    go_wp2_with fail
    refine(zK ⟨#[60,47,62]⟩ HS1.out.choose_spec.choose_spec).mono ?_
    rintro r w2 ⟨rfl,n2,rfl⟩
    rw[show isA (ByteArray.mk #[60,47,62]).data.toList (c::m)=false from h3]
    have H2:=Lib.hid (H1.out.below ((Below.refl _ _).drewN n2))
    have HS2:=Lib.hid H2.out.src
    have HB2:Hid (Below g w (w1.drewN n2)):=HB1.out.drewN n2
    generalize w1.drewN n2=w2 at *
    clear H1 HS1 HB1
    go_wp2_with fail
    refine(zK ⟨#[60,33,45,45]⟩ HS2.out.choose_spec.choose_spec).mono ?_
    rintro r w3 ⟨rfl,n3,rfl⟩
    rw[show isA (ByteArray.mk #[60,33,45,45]).data.toList (c::m)=false from h4]
    have H3:=Lib.hid (H2.out.below ((Below.refl _ _).drewN n3))
    have HS3:=Lib.hid H3.out.src
    have HB3:Hid (Below g w (w2.drewN n3)):=HB2.out.drewN n3
    generalize w2.drewN n3=w3 at *
    clear H2 HS2 HB2
    go_wp2_with fail
    refine(zK ⟨#[60,33]⟩ HS3.out.choose_spec.choose_spec).mono ?_
    rintro r w4 ⟨rfl,n4,rfl⟩
    rw[show isA (ByteArray.mk #[60,33]).data.toList (c::m)=false from h5]
    have H4:=Lib.hid (H3.out.below ((Below.refl _ _).drewN n4))
    have HS4:=Lib.hid H4.out.src
    have HB4:Hid (Below g w (w3.drewN n4)):=HB3.out.drewN n4
    generalize w3.drewN n4=w4 at *
    clear H3 HS3 HB3
    go_wp2_with fail
    refine(zK ⟨#[60,63]⟩ HS4.out.choose_spec.choose_spec).mono ?_
    rintro r w5 ⟨rfl,n5,rfl⟩
    rw[show isA (ByteArray.mk #[60,63]).data.toList (c::m)=false from h6]
    have H5:=Lib.hid (H4.out.below ((Below.refl _ _).drewN n5))
    have HS5:=Lib.hid H5.out.src
    have HB5:Hid (Below g w (w4.drewN n5)):=HB4.out.drewN n5
    generalize w4.drewN n5=w5 at *
    clear H4 HS4 HB4
    go_wp2_with fail
    refine(zK ⟨#[60,47]⟩ HS5.out.choose_spec.choose_spec).mono ?_
    rintro r w6 ⟨rfl,n6,rfl⟩
    rw[show isA (ByteArray.mk #[60,47]).data.toList (c::m)=false from h7]
    have H6:=Lib.hid (H5.out.below ((Below.refl _ _).drewN n6))
    have HS6:=Lib.hid H6.out.src
    have HB6:Hid (Below g w (w5.drewN n6)):=HB5.out.drewN n6
    generalize w5.drewN n6=w6 at *
    clear H5 HS5 HB5
    go_wp2_with fail
    refine(zdH w6 H6.out hf.2.1).mono ?_
    rintro r wz ⟨rfl,hr,hb⟩
    have HR:=Lib.hid hr
    have HBZ:Hid (Below g w wz):=HB6.out.trans hb
    clear hr hb
    go_wp2_with fail
    go_end0
    rw[<-HZ.out,HV.out]
    exact⟨rfl,HR.out,HBZ.out⟩
  | true=>
  have hte:((zi (c::m)).toList == [60,47])=((c::m).map (·.1) == [60,47]):=by rw[ByteArray.toList_eq,zX]
  cases h8:((c::m).map (·.1) == [60,47]) with
  | true=>
    have HV:=Lib.hid (zmj (toks:=toks) (ps:=ps) hat h3 h4 (by rw[h5,h6,h7,h8];rfl))
    rw[h8]at hte
    go_enter Tryz.func35,Tryz.ntmps35
    go_wp2_with fail
    refine(za8 w H0.out.src.choose_spec.choose_spec).mono ?_
    rintro r w1 ⟨rfl,n1,rfl⟩
    rw[hat]
    have H1:=Lib.hid (H0.out.below ((Below.refl _ _).drewN n1))
    have HS1:=Lib.hid H1.out.src
    have HB1:Hid (Below g w (w.drewN n1)):=(Below.refl _ _).drewN n1
    generalize w.drewN n1=w1 at *
    go_wp2_with fail
    refine(zK ⟨#[60,47,62]⟩ HS1.out.choose_spec.choose_spec).mono ?_
    rintro r w2 ⟨rfl,n2,rfl⟩
    rw[show isA (ByteArray.mk #[60,47,62]).data.toList (c::m)=false from h3]
    have H2:=Lib.hid (H1.out.below ((Below.refl _ _).drewN n2))
    have HS2:=Lib.hid H2.out.src
    have HB2:Hid (Below g w (w1.drewN n2)):=HB1.out.drewN n2
    generalize w1.drewN n2=w2 at *
    clear H1 HS1 HB1
    go_wp2_with fail
    refine(zK ⟨#[60,33,45,45]⟩ HS2.out.choose_spec.choose_spec).mono ?_
    rintro r w3 ⟨rfl,n3,rfl⟩
    rw[show isA (ByteArray.mk #[60,33,45,45]).data.toList (c::m)=false from h4]
    have H3:=Lib.hid (H2.out.below ((Below.refl _ _).drewN n3))
    have HS3:=Lib.hid H3.out.src
    have HB3:Hid (Below g w (w2.drewN n3)):=HB2.out.drewN n3
    generalize w2.drewN n3=w3 at *
    clear H2 HS2 HB2
    go_wp2_with fail
    refine(zK ⟨#[60,33]⟩ HS3.out.choose_spec.choose_spec).mono ?_
    rintro r w4 ⟨rfl,n4,rfl⟩
    rw[show isA (ByteArray.mk #[60,33]).data.toList (c::m)=false from h5]
    have H4:=Lib.hid (H3.out.below ((Below.refl _ _).drewN n4))
    have HS4:=Lib.hid H4.out.src
    have HB4:Hid (Below g w (w3.drewN n4)):=HB3.out.drewN n4
    generalize w3.drewN n4=w4 at *
    clear H3 HS3 HB3
    go_wp2_with fail
    refine(zK ⟨#[60,63]⟩ HS4.out.choose_spec.choose_spec).mono ?_
    rintro r w5 ⟨rfl,n5,rfl⟩
    rw[show isA (ByteArray.mk #[60,63]).data.toList (c::m)=false from h6]
    have H5:=Lib.hid (H4.out.below ((Below.refl _ _).drewN n5))
    have HS5:=Lib.hid H5.out.src
    have HB5:Hid (Below g w (w4.drewN n5)):=HB4.out.drewN n5
    generalize w4.drewN n5=w5 at *
    clear H4 HS4 HB4
    go_wp2_with fail
    refine(zK ⟨#[60,47]⟩ HS5.out.choose_spec.choose_spec).mono ?_
    rintro r w6 ⟨rfl,n6,rfl⟩
    rw[show isA (ByteArray.mk #[60,47]).data.toList (c::m)=true from h7]
    have H6:=Lib.hid (H5.out.below ((Below.refl _ _).drewN n6))
    have HS6:=Lib.hid H6.out.src
    have HB6:Hid (Below g w (w5.drewN n6)):=HB5.out.drewN n6
    generalize w5.drewN n6=w6 at *
    clear H5 HS5 HB5
    go_wp2_with fail
    refine(zfm HS6.out.choose_spec.choose_spec).mono ?_
    rintro r w7 ⟨rfl,n7,rfl⟩
    have H7:=Lib.hid (H6.out.below ((Below.refl _ _).drewN n7))
    have HB7:Hid (Below g w (w6.drewN n7)):=HB6.out.drewN n7
    generalize w6.drewN n7=w7 at *
    go_wp2_with fail
    refine(zdH w7 H7.out hf.2.1).mono ?_
    rintro r wz ⟨rfl,hr,hb⟩
    have HR:=Lib.hid hr
    have HBZ:Hid (Below g w wz):=HB7.out.trans hb
    clear hr hb
    go_wp2_with fail
    go_end0
    rw[<-HZ.out,HV.out]
    exact⟨rfl,HR.out,HBZ.out⟩
  | false=>
    have HV:=Lib.hid (zib (toks:=toks) (ps:=ps) hat h3 h4 (by rw[h5,h6,h7,h8];rfl))
    rw[h8]at hte
    go_enter Tryz.func35,Tryz.ntmps35
    go_wp2_with fail
    refine(za8 w H0.out.src.choose_spec.choose_spec).mono ?_
    rintro r w1 ⟨rfl,n1,rfl⟩
    rw[hat]
    have H1:=Lib.hid (H0.out.below ((Below.refl _ _).drewN n1))
    have HS1:=Lib.hid H1.out.src
    have HB1:Hid (Below g w (w.drewN n1)):=(Below.refl _ _).drewN n1
    generalize w.drewN n1=w1 at *
    go_wp2_with fail
    refine(zK ⟨#[60,47,62]⟩ HS1.out.choose_spec.choose_spec).mono ?_
    rintro r w2 ⟨rfl,n2,rfl⟩
    rw[show isA (ByteArray.mk #[60,47,62]).data.toList (c::m)=false from h3]
    have H2:=Lib.hid (H1.out.below ((Below.refl _ _).drewN n2))
    have HS2:=Lib.hid H2.out.src
    have HB2:Hid (Below g w (w1.drewN n2)):=HB1.out.drewN n2
    generalize w1.drewN n2=w2 at *
    clear H1 HS1 HB1
    go_wp2_with fail
    refine(zK ⟨#[60,33,45,45]⟩ HS2.out.choose_spec.choose_spec).mono ?_
    rintro r w3 ⟨rfl,n3,rfl⟩
    rw[show isA (ByteArray.mk #[60,33,45,45]).data.toList (c::m)=false from h4]
    have H3:=Lib.hid (H2.out.below ((Below.refl _ _).drewN n3))
    have HS3:=Lib.hid H3.out.src
    have HB3:Hid (Below g w (w2.drewN n3)):=HB2.out.drewN n3
    generalize w2.drewN n3=w3 at *
    clear H2 HS2 HB2
    go_wp2_with fail
    refine(zK ⟨#[60,33]⟩ HS3.out.choose_spec.choose_spec).mono ?_
    rintro r w4 ⟨rfl,n4,rfl⟩
    rw[show isA (ByteArray.mk #[60,33]).data.toList (c::m)=false from h5]
    have H4:=Lib.hid (H3.out.below ((Below.refl _ _).drewN n4))
    have HS4:=Lib.hid H4.out.src
    have HB4:Hid (Below g w (w3.drewN n4)):=HB3.out.drewN n4
    generalize w3.drewN n4=w4 at *
    clear H3 HS3 HB3
    go_wp2_with fail
    refine(zK ⟨#[60,63]⟩ HS4.out.choose_spec.choose_spec).mono ?_
    rintro r w5 ⟨rfl,n5,rfl⟩
    rw[show isA (ByteArray.mk #[60,63]).data.toList (c::m)=false from h6]
    have H5:=Lib.hid (H4.out.below ((Below.refl _ _).drewN n5))
    have HS5:=Lib.hid H5.out.src
    have HB5:Hid (Below g w (w4.drewN n5)):=HB4.out.drewN n5
    generalize w4.drewN n5=w5 at *
    clear H4 HS4 HB4
    go_wp2_with fail
    refine(zK ⟨#[60,47]⟩ HS5.out.choose_spec.choose_spec).mono ?_
    rintro r w6 ⟨rfl,n6,rfl⟩
    rw[show isA (ByteArray.mk #[60,47]).data.toList (c::m)=true from h7]
    have H6:=Lib.hid (H5.out.below ((Below.refl _ _).drewN n6))
    have HS6:=Lib.hid H6.out.src
    have HB6:Hid (Below g w (w5.drewN n6)):=HB5.out.drewN n6
    generalize w5.drewN n6=w6 at *
    clear H5 HS5 HB5
    go_wp2_with fail
    refine(zfm HS6.out.choose_spec.choose_spec).mono ?_
    rintro r w7 ⟨rfl,n7,rfl⟩
    have H7:=Lib.hid (H6.out.below ((Below.refl _ _).drewN n7))
    have HB7:Hid (Below g w (w6.drewN n7)):=HB6.out.drewN n7
    generalize w6.drewN n7=w7 at *
    go_wp2_with fail
    refine(zaW 2 ⟨#[62]⟩ w7 H7.out hf (by omega) (by decide)).mono ?_
    rintro r wz ⟨rfl,hr,hb⟩
    have HR:=Lib.hid hr
    have HBZ:Hid (Below g w wz):=HB7.out.trans hb
    clear hr hb
    go_wp2_with fail
    go_end0
    rw[<-HZ.out,HV.out]
    exact⟨rfl,HR.out,HBZ.out⟩
theorem zj9(a:LT)(w:World)(ha:a.ok w w.heap.size) :
    Calls Tryz.prog 33 #[.agg #[.string a.s,.slice a.A a.n a.c]] w fun e w'=>∃ (A:Option Addr) (c:Nat),e=.returned (.agg #[.string (zi a.ch),.int .i64 0,.slice A (zl a.ch).length c,.int .i64 0])/\Hid (w'.ownsRow w.heap.size 53 2 (.slice A (zl a.ch).length c) (zl a.ch).length (zc (zl a.ch)))/\Below w.heap.size w w':=by
  have HF:Hid (∀ V,Below w.heap.size w V->Calls Tryz.prog 38 #[.agg #[.string a.s,.slice a.A a.n a.c]] V _):=fun V hV=>zlS a V (ha.next hV (Nat.le_refl _))
  clear ha
  go_enter Tryz.func33,Tryz.ntmps33
  go_wp2_with fail
  generalize hw0:(w.alloc (.cells #[.string a.s,.slice a.A a.n a.c] 24)).alloc (.cells #[.string ⟨#[]⟩,.int .i64 0,.slice none 0 0,.int .i64 0] 61)=w0
  have y1:Hid (Whole w0 w.heap.size 24 #[.string a.s,.slice a.A a.n a.c]):=by rw[<-hw0];exact(Whole.made w _ _).alloc _
  have y2:Hid (Whole w0 (w.heap.size+1) 61 #[.string ⟨#[]⟩,.int .i64 0,.slice none 0 0,.int .i64 0]):=by
    rw[<-hw0]
    have h:=Whole.made (w.alloc (.cells #[.string a.s,.slice a.A a.n a.c] 24)) 61 #[.string ⟨#[]⟩,.int .i64 0,.slice none 0 0,.int .i64 0]
    simp only[World.size_alloc]at h
    exact h
  have hb0:Below w.heap.size w w0:=by rw[<-hw0];exact((Below.refl _ _).alloc (Nat.le_refl _) _).alloc (by simp) _
  have HB0:=Lib.hid hb0
  clear hw0
  refine(HF.out w0 hb0).mono ?_
  rintro e w1 ⟨A,c,rfl,ho,hb1⟩
  have ya:=y1.out.below hb1 y1.out.lt
  have yb:=y2.out.below hb1 y2.out.lt
  have HO:=Lib.hid ho
  have HB1:Hid (Below w.heap.size w w1):=HB0.out.trans (hb1.mono HB0.out.size)
  have hz0:w.heap.size+1 < w0.heap.size:=y2.out.lt
  have c0:=ya.at_ 0
  have c1:=ya.at_ 1
  have k0:=ya.free 0
  have k1:=ya.free 1
  have d0:=yb.at_ 0
  have d1:=yb.at_ 1
  have d2:=yb.at_ 2
  have d3:=yb.at_ 3
  have f0:=yb.free 0
  have f1:=yb.free 1
  have f2:=yb.free 2
  have f3:=yb.free 3
  have hne:w.heap.size≠w.heap.size+1:=by omega
  clear ya yb ho hb1 hb0 y1 y2
  go_wp2_with fail
  refine bodyPost_ret (v:=.agg #[.string (zi a.ch),.int .i64 0,.slice A (zl a.ch).length c,.int .i64 0]) ?_ rfl ?_
  . simp [results,Tryz.results33,go_sem,d0,d1,d2,d3,zl]
  . refine⟨A,c,rfl,?_,?_⟩
    . show World.ownsRow _ _ _ _ _ _ _
      have key:∀ {V:World} (b j:Nat) (u:Value),b < w0.heap.size->V.ownsRow w0.heap.size 53 2 (.slice A (comp (a.ch.map (·.2))).length c) (comp (a.ch.map (·.2))).length (zc (comp (a.ch.map (·.2))))->(V.setCell ⟨b,j,none⟩ u).ownsRow w0.heap.size 53 2 (.slice A (comp (a.ch.map (·.2))).length c) (comp (a.ch.map (·.2))).length (zc (comp (a.ch.map (·.2)))):=fun b j u hb h=>zS h _ (fun e=>by have:=(h.lt _ e).1;simp at this;omega) _
      exact zI (key _ 3 _ hz0 (key _ 2 _ hz0 (key _ 1 _ hz0 (key _ 0 _ hz0 (key _ 1 _ (by omega) (key _ 0 _ (by omega) HO.out)))))) HB0.out.size
    . exact(((((HB1.out.setCell (p:=⟨w.heap.size,0,none⟩) (Nat.le_refl _) _).setCell (p:=⟨w.heap.size,1,none⟩) (Nat.le_refl _) _).setCell (p:=⟨w.heap.size+1,0,none⟩) (Nat.le_succ _) _).setCell (p:=⟨w.heap.size+1,1,none⟩) (Nat.le_succ _) _).setCell (p:=⟨w.heap.size+1,2,none⟩) (Nat.le_succ _) _).setCell (p:=⟨w.heap.size+1,3,none⟩) (Nat.le_succ _) _
def Holds3(L rest:Ch)(toks:List PTok)(ps:List Ch):Prop:=toks.length+ps.length+3 * rest.length<=3 * L.length/\ps.flatten.length+rest.length<=L.length
theorem Holds3.few{L rest:Ch}{toks:List PTok}{ps:List Ch}(h:Holds3 L rest toks ps)(hl:L.length<=268435456):Few toks ps:=by
  obtain⟨h1,h2⟩:=h
  exact⟨by omega,by omega,by omega⟩
theorem zmk(toks:List PTok)(ps:List Ch):(zP toks ps).length<=toks.length+1:=by
  unfold zP
  split
  . omega
  . rw[List.length_append];exact Nat.le_refl _
theorem zka{L m:Ch}{toks:List PTok}{ps:List Ch}(hm:m≠[])(h:Holds3 L m toks ps)(hlt:(zaD toks ps m).2.2.length < m.length):Holds3 L (zaD toks ps m).2.2 (zaD toks ps m).1 (zaD toks ps m).2.1:=by
  obtain⟨h1,h2⟩:=h
  have hf:=zmk toks ps
  unfold zaD at hlt ⊢
  split
  . rename_i hat
    rw[if_pos hat]at hlt
    cases ht:tagQ m with
    | none=>
      exact⟨by show toks.length+ps.length+3 * 0<=_;omega,by show ps.flatten.length+0<=_;omega⟩
    | some x=>
      obtain⟨t,r⟩:=x
      rw[ht]at hlt
      have hr:=zlk hm ht
      simp only at hlt ⊢
      split
      . rename_i hc
        rw[if_pos hc]at hlt
        have hrw:=zfK (t.name.map (·.1)) r
        simp only at hlt ⊢
        generalize rawT (t.name.map (·.1)) r=k at *
        rw[List.length_drop]at hlt
        unfold Holds3
        rw[List.length_append,List.length_drop]
        split
        . subst_vars
          exact⟨by show _+1+0+_<=_;omega,by show 0+_<=_;omega⟩
        . refine⟨by show _+1+1+_<=_;omega,?_⟩
          show([r.take k]:List Ch).flatten.length+_<=_
          rw[List.flatten_cons,List.flatten_nil,List.append_nil,List.length_take]
          omega
      . rename_i hc
        rw[if_neg hc]at hlt
        unfold Holds3
        rw[List.length_append]
        exact⟨by show _+1+0+3 * r.length<=_;omega,by show 0+r.length<=_;omega⟩
  . rename_i hat
    rw[if_neg hat]at hlt
    split
    . rename_i h3
      rw[if_pos h3]at hlt
      simp only at hlt
      exact⟨by show toks.length+ps.length+3 * (m.drop 3).length<=_;omega,by show ps.flatten.length+(m.drop 3).length<=_;omega⟩
    . rename_i h3
      rw[if_neg h3]at hlt
      split
      . rename_i h4
        rw[if_pos h4]at hlt
        simp only at hlt
        unfold Holds3
        rw[List.length_append]
        exact⟨by show _+1+0+3 * (zbd m 4 [45,45,62]).2.length<=_;omega,by show 0+(zbd m 4 [45,45,62]).2.length<=_;omega⟩
      . rename_i h4
        rw[if_neg h4]at hlt
        split
        . rename_i h5
          rw[if_pos h5]at hlt
          simp only at hlt
          unfold Holds3
          rw[List.length_append]
          exact⟨by show _+1+0+3 * (zbd m 2 [62]).2.length<=_;omega,by show 0+(zbd m 2 [62]).2.length<=_;omega⟩
        . rename_i h5
          rw[if_neg h5]at hlt
          simp only at hlt
          have hd:=zdO (m.take (1+ltT m.tail))
          rw[List.length_take]at hd
          rw[List.length_drop]at hlt
          unfold Holds3
          simp only
          rw[List.length_append,List.flatten_append,List.length_append,List.length_drop,List.flatten_cons,List.flatten_nil,List.append_nil]
          exact⟨by show _+(_+1)+_<=_;omega,by omega⟩
theorem znQ{w:World}{g:Nat}{L:Ch}{A:Option Addr}{c:Nat}(hi:InR L)(hl:L.length<=268435456)(hW:Whole w g 64 #[.string (zi L),.int .i64 0,.slice A (zl L).length c,.int .i64 0,.slice none 0 0,.slice none 0 0])(ho:w.ownsRow 0 53 2 (.slice A (zl L).length c) (zl L).length (zc (zl L)))(hb:∀ b,(Value.slice A (zl L).length c).ownBlock=some b->b < g):Src w g L L (.slice none 0 0) (.slice none 0 0):=by
  have hlies:Lies w g A (zc (zl L)):=by
    intro j x hx
    obtain⟨ad,e,_,hc⟩:=Lies.own ho j x hx
    subst e
    rcases ho.2 with ⟨hv,_⟩ | ⟨g',cap,cur,hv,_⟩
    . cases hv
    . injection hv with hv _ _
      have hv:=Option.some.inj hv
      subst hv
      exact⟨_,rfl,hb _ rfl,hc⟩
  obtain⟨A',c',e,hA,_,hc⟩:=zh ho
  injection e with e1 _ e3
  subst e1 e3
  exact⟨0,rfl,⟨A,(zl L).length,c,0,by rw[zfa];exact hW,by rw[List.drop_zero];exact hlies,by rw[List.drop_zero],hc,hA,by rw[zfa];exact Nat.le_refl _,Nat.zero_le _⟩,Nat.zero_le _,hi,hl⟩
def zml(g:Nat)(L:Ch)(mx:Int)(w0 wr:World):Prop:=∃ toks ps rest,RdS wr g L rest toks ps mx/\Hid (Holds3 L rest toks ps/\okQ toks ps/\tokQ (zP toks ps) rest=zhR L)/\Below g w0 wr
theorem RdS.left{w:World}{g:Nat}{L rest:Ch}{toks:List PTok}{ps:List Ch}{mx:Int}(h:RdS w g L rest toks ps mx):zl6 L g w=rest.length:=by obtain⟨v4,v5,h⟩:=h.src;exact zf8 h
def zmm(l:List PTok)(w:World)(e:Ending)(w':World):Prop:=
  ∃ (A:Option Addr) (c:Nat) (ts:List TK),e=.returned (.slice A ts.length c)/\Hid (w'.ownsRow w.heap.size 98 7 (.slice A ts.length c) ts.length (zb4 ts)/\(∀ t∈ts,OwnT w' w.heap.size t)/\ts.map TK.pt=l)/\Below w.heap.size w w'
theorem zhk(a:LT)(mx:Int)(w:World)(ha:a.ok w w.heap.size)(hl:a.s.size<=268435456)(hmx:w.cell? ⟨0,0,none⟩=some (.int .i64 mx)) :
    Calls Tryz.prog 11 #[.agg #[.string a.s,.slice a.A a.n a.c]] w (zmm (zhR a.ch) w):=by
  have hal:a.ch.length<=268435456:=by rw[LT.ch_length];exact hl
  have hin:=a.ch_in
  have HMX:=Lib.hid hmx
  have hlo:0 < w.heap.size:=zdi _ _ _ hmx
  have HOP:Hid (∀ V,Below w.heap.size w V->Calls Tryz.prog 33 #[.agg #[.string a.s,.slice a.A a.n a.c]] V fun e w'=>∃ (A:Option Addr) (c:Nat),e=.returned (.agg #[.string (zi a.ch),.int .i64 0,.slice A (zl a.ch).length c,.int .i64 0])/\Hid (w'.ownsRow V.heap.size 53 2 (.slice A (zl a.ch).length c) (zl a.ch).length (zc (zl a.ch)))/\Below V.heap.size V w'):=fun V hV=>zj9 a V (ha.next hV (Nat.le_refl _))
  clear ha hl hmx
  generalize a.ch=L at *
  go_enter Tryz.func11,Tryz.ntmps11
  go_wp2_with fail
  have HB0:Hid (Below w.heap.size w (w.alloc (.cells #[.string a.s,.slice a.A a.n a.c] 24))):=(Below.refl _ _).alloc (Nat.le_refl _) _
  generalize w.alloc (.cells #[.string a.s,.slice a.A a.n a.c] 24)=w0 at *
  refine(HOP.out w0 HB0.out).mono ?_
  rintro e w1 ⟨A,c,rfl,ho,hb1⟩
  have HO1:=Lib.hid ho.out
  have HB1:Hid (Below w.heap.size w w1):=HB0.out.trans (hb1.mono HB0.out.size)
  clear ho hb1 HOP
  go_wp2_with fail
  generalize hw2:w1.alloc (.cells #[.string (zi L),.int .i64 0,.slice A (zl L).length c,.int .i64 0,.slice none 0 0,.slice none 0 0] 64)=w2
  have y2:Whole w2 w1.heap.size 64 #[.string (zi L),.int .i64 0,.slice A (zl L).length c,.int .i64 0,.slice none 0 0,.slice none 0 0]:=by rw[<-hw2];exact Whole.made _ _ _
  have hb2:Below w1.heap.size w1 w2:=by rw[<-hw2];exact(Below.refl _ _).alloc (Nat.le_refl _) _
  have HB2:Hid (Below w.heap.size w w2):=HB1.out.trans (hb2.mono HB1.out.size)
  have hgw:w.heap.size<=w1.heap.size:=HB1.out.size
  have hmx2:w2.cell? ⟨0,0,none⟩=some (.int .i64 mx):=(HB2.out.cell hlo).trans HMX.out
  have HRD:Hid (RdS w2 w1.heap.size L L [] [] mx):=⟨⟨[],[],.slice none 0 0,.slice none 0 0,⟨znQ hin hal y2 (zI (zJ HO1.out hb2) (Nat.zero_le _)) (fun b hb=>(HO1.out.lt b hb).2),World.ownsRow_nil _ _ _ _,(fun t ht=>by cases ht),World.ownsRow_nil _ _ _ _,(fun u hu=>by cases hu)⟩,rfl,rfl⟩,hmx2,by omega⟩
  have HST:Hid (zml w1.heap.size L mx w2 w2):=⟨[],[],L,HRD.out,⟨⟨by show 0+0+_<=_;omega,by show 0+_<=_;omega⟩,⟨(fun t ht=>by cases ht),(fun p hp=>by cases hp)⟩,rfl⟩,Below.refl _ _⟩
  generalize hgg:w1.heap.size=g at *
  clear hw2 y2 hb2 hmx2 hin HRD HO1 HB1 HB0
  go_wp2_with fail
  go_loopw [] (zml g L mx w2) (fun wr=>zl6 L g wr)
  case atStart=>exact HST.out
  case round=>
    obtain⟨toks,ps,rest,hrd,hq,hbr⟩:=hrel
    have HR:=Lib.hid hrd
    have HQ:=Lib.hid hq.out
    have HBR:=Lib.hid hbr
    have hleft:=hrd.left
    have hgr:=hrd.lt
    clear hrd hq hbr
    cases hrest:rest with
    | nil=>
      subst hrest
      have HM:=Lib.hid (zhc HR.out.src.choose_spec.choose_spec)
      go_wp2_with fail
      refine HM.out.mono ?_
      rintro e w3 ⟨rfl,n3,rfl⟩
      rw[show(!([]:Ch).isEmpty)=false from rfl]
      have HR3:=Lib.hid (HR.out.below ((Below.refl _ _).drewN n3))
      have HB3:Hid (Below g w2 (wr.drewN n3)):=HBR.out.drewN n3
      generalize wr.drewN n3=w3 at *
      have hfew:=HQ.out.1.few hal
      have HTP:Hid (zP toks ps=zhR L):=by
        have:=HQ.out.2.2
        rw[zdP]at this
        exact this
      obtain⟨ts,us,vt,vp,hrv,hpt,hch⟩:=HR3.out.ex
      have HRV:=Lib.hid hrv
      rw[<-hpt,<-hch]at HTP
      have hf1:ts.length<=1000000000:=by have:=hfew.1;rw[<-hpt,List.length_map]at this;exact this
      have hf2:us.length<=1000000000:=by have:=hfew.2.1;rw[<-hch,List.length_map]at this;exact this
      have hf3:(zY us).length<=268435456:=by have:=hfew.2.2;rw[<-hch,<-zga]at this;exact this
      have HVT:Hid (∀ b,vt.ownBlock=some b->g+1<=b):=fun b hb=>(hrv.tok.lt b hb).1
      clear hrv hpt hch hfew HM HR HR3 HQ
      go_wp2_with fail
      refine(zeB w3 HRV.out (by omega) (by omega) hf3).mono ?_
      rintro e w4 ⟨rfl,ts',vt',vp',hr4,hp4,hm4,_,_⟩
      obtain⟨A4,c4,rfl,_,_,_⟩:=zh hr4.tok
      have hc4:=hr4.at4
      have H4:=Lib.hid hr4
      have HP4:=Lib.hid hp4
      have hb4:Below g w3 w4:=hm4.below (Nat.le_of_lt HRV.out.lt) (fun b hb hs=>by
        rcases hs with hs | hs
        . omega
        . have:=HVT.out b hs;omega)
      have HB4:Hid (Below w.heap.size w w4):=HB2.out.trans ((HB3.out.trans hb4).mono hgw)
      clear hr4 hp4 hm4 hb4
      go_wp2_with fail
      go_ret
      exact⟨A4,c4,ts',rfl,⟨zI H4.out.tok (by omega),fun t ht=>(H4.out.tall t ht).mono (by omega),by rw[HP4.out,HTP.out]⟩,HB4.out⟩
    | cons x m=>
      have HM:=Lib.hid (zhc HR.out.src.choose_spec.choose_spec)
      have HRE:=Lib.hid hrest
      rw[hrest]at HM
      clear hrest
      go_wp2_with fail
      refine HM.out.mono ?_
      rintro e w3 ⟨rfl,n3,rfl⟩
      rw[show(!(x::m:Ch).isEmpty)=true from rfl]
      have HR3:=Lib.hid (HR.out.below ((Below.refl _ _).drewN n3))
      have HB3:Hid (Below g w2 (wr.drewN n3)):=HBR.out.drewN n3
      generalize wr.drewN n3=w3 at *
      have hne:rest≠[]:=by rw[HRE.out];simp
      have HSTEP:=Lib.hid (zlp hne HR3.out.inr HQ.out.2.1)
      have HHO:=Lib.hid (zka hne HQ.out.1 HSTEP.out.2.2)
      go_wp2_with fail
      refine(znP w3 HR3.out (HQ.out.1.few hal) hne).mono ?_
      rintro e w4 ⟨rfl,hr4,hb4⟩
      have HNX:Hid (zml g L mx w2 w4):=⟨_,_,_,hr4,⟨HHO.out,HSTEP.out.2.1,HSTEP.out.1.symm.trans HQ.out.2.2⟩,HB3.out.trans hb4⟩
      have hl4:=hr4.left
      have hlt4:=HSTEP.out.2.2
      clear hr4 hb4
      go_wp2_with fail
      go_roundw
      case rel=>exact HNX.out
      case measure=>rw[hl4,hleft];exact hlt4
end Go.Proofs.YtddgabjhligeeaaGreat.mk
