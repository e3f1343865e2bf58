import Derived.Test.YtddgabjhligeeaaGreatJnAD
import Derived.Test.YtddgabjhligeeaaGreatJnAG
set_option maxHeartbeats 4000000
set_option maxRecDepth 100000
namespace Go.Proofs.YtddgabjhligeeaaGreat.mk
open Go.RowKit Go.Maps
structure AsF (F:Nat) (g:Ch->Ch):Prop where
  enters:∀ args w',Sem.run Tryz.prog (callFunc F args) w'=.ok (.enter F args) w'
  tells:∀ (t:LT) w',t.ok w' w'.heap.size->Calls Tryz.prog F #[.agg #[.string t.s,.slice t.A t.n t.c]] w' fun e w''=>∃ t':LT,e=.returned (.agg #[.string t'.s,.slice t'.A t'.n t'.c])/\Hid (t'.ch=g t.ch/\OwnL w'' w'.heap.size t')/\Below w'.heap.size w' w''
def gA(g:Ch->Ch)(p:PA):PA:=(g p.1,g p.2)
theorem znv(t:LT)(w:World)(h:t.ok w w.heap.size) :
    Calls Tryz.prog 38 #[.agg #[.string t.s,.slice t.A t.n t.c]] w fun e w'=>∃ t':LT,e=.returned (.agg #[.string t'.s,.slice t'.A t'.n t'.c])/\Hid (t'.ch=t.ch/\OwnL w' w.heap.size t')/\Below w.heap.size w w':=by
  refine(zbU t.s t.A t.n t.c t.rs w h.1 h.2.1 h.2.2.2 h.2.2.1).mono ?_
  rintro e w1 ⟨v,rfl,ho,hb⟩
  obtain⟨t',rfl,e1,q,o⟩:=zfE h.2.2.2 ho
  exact⟨t',by rw[e1],⟨q,o⟩,hb⟩
theorem zoX:AsF 38 id:=⟨fun _ _=>rfl,znv⟩
def zhZ(g:Ch->Ch)(L:List PA)(A:Option Addr)(m c:Nat)(w0:World)(i:Value)(wr:World):Prop:=
  ∃ (k:Nat) (us:List AT),k<=m/\i=.int .i64 (k:Int)/\us.length=m/\wr.ownsRow w0.heap.size 93 4 (.slice A m c) m (zq us)/\AllOwn wr w0.heap.size us/\us.map AT.ch=(L.take k).map (gA g)++ L.drop k/\Below w0.heap.size w0 wr
theorem zlK{g:Ch->Ch}{L:List PA}{us:List AT}{k:Nat}{t':AT}{x:PA}(hx:L[k]?=some x)(he:us.map AT.ch=(L.take k).map (gA g)++ L.drop k)(ht:t'.ch=gA g x):(us.set k t').map AT.ch=(L.take (k+1)).map (gA g)++ L.drop (k+1):=by
  obtain⟨hk,e⟩:=List.getElem?_eq_some_iff.1 hx
  rw[List.map_set,he,ht,zw hx,List.map_append,List.drop_eq_getElem_cons hk,e]
  have hl:((L.take k).map (gA g)).length=k:=by rw[List.length_map,List.length_take];omega
  rw[List.set_append_right _ _ (by omega),hl,Nat.sub_self]
  simp
theorem zlL{F:Nat}{g:Ch->Ch}(hF:AsF F g)(A:Option Addr)(n c:Nat)(ts:List AT)(w:World)(hl:Lies w w.heap.size A (zq ts))(hok:AllOk w w.heap.size ts)(hn:ts.length=n)(hn2:n<=4294967295) :
    Calls Tryz.prog 100 #[.slice A n c,.func (.func F) #[] #[]] w (zgA ((zag (ts.map AT.ch)).map (gA g)) w):=by
  have HF:=Lib.hid hF
  have honce:=Lib.hid (ziK A n c ts w hl hok hn hn2)
  have hml:(zag (ts.map AT.ch)).length<=n:=by
    have h:(zag (ts.map AT.ch)).length<=(ts.map AT.ch).length:=zfC _ _
    rw[List.length_map,hn]at h
    exact h
  clear hF hl hok hn
  go_enter Tryz.func100,Tryz.ntmps100
  go_wp2_with fail
  refine honce.out.mono ?_
  rintro e w1 ⟨A1,c1,us0,rfl,h2,h3,h4,hb1⟩
  have hlen:us0.length=(zag (ts.map AT.ch)).length:=by rw[<-h4,List.length_map]
  generalize hL:zag (ts.map AT.ch)=L at *
  generalize hm:us0.length=m at *
  have HST:Hid (zhZ g L A1 m c1 w (.int .i64 0) w1):=⟨0,us0,Nat.zero_le _,rfl,hm,h2,h3,by rw[h4];simp,hb1⟩
  have HLEN:=Lib.hid hlen
  have hmb:m<=4294967295:=by omega
  clear honce h2 h3 h4 hb1 hm hlen hL
  go_wp2_with fail
  go_loopw [12] (zhZ g L A1 m c1 w) (fun i _=>m - (intOf i).toNat)
  case atStart=>exact HST.out
  case round=>
    clear HST
    obtain⟨k,us,hk,rfl,hul,hown,hA,he,hb⟩:=hrel
    have HOW:=Lib.hid hown
    have HA:=Lib.hid hA
    have HE:=Lib.hid he
    have HB:=Lib.hid hb
    have HUL:=Lib.hid hul
    have hzr:=hb.size
    by_cases hlt:k < m
    . obtain⟨gb,rfl⟩:∃ gb,A1=some ⟨gb,0,none⟩:=by
        rcases hown.2 with ⟨hv,_⟩ | ⟨gb,cap,cur,hv,_⟩
        . injection hv with _ hv _;omega
        . injection hv with hv _ _;exact⟨gb,hv⟩
      have hgb:=hown.lt gb rfl
      obtain⟨u,hu⟩:∃ u,us[k]?=some u:=⟨_,List.getElem?_eq_getElem (by omega)⟩
      have HU:=Lib.hid hu
      have HROW:Hid (∀ w',Below wr.heap.size wr w'->w'.cell? ⟨gb,k * 4,none⟩=some (.string u.nm.s)/\w'.cell? ⟨gb,k * 4+1,none⟩=some (.slice u.nm.A u.nm.n u.nm.c)/\w'.cell? ⟨gb,k * 4+2,none⟩=some (.string u.vl.s)/\w'.cell? ⟨gb,k * 4+3,none⟩=some (.slice u.vl.A u.vl.n u.vl.c)/\
          w'.frozen? ⟨gb,k * 4,none⟩=false/\w'.frozen? ⟨gb,k * 4+1,none⟩=false/\w'.frozen? ⟨gb,k * 4+2,none⟩=false/\w'.frozen? ⟨gb,k * 4+3,none⟩=false):=by
        intro w' hw'
        have ho:=zJ HOW.out hw'
        have r0:w'.cell? ⟨gb,k * 4,none⟩=(zq us)[k * 4]?:=ho.cellAt _ (by omega)
        have r1:w'.cell? ⟨gb,k * 4+1,none⟩=(zq us)[k * 4+1]?:=ho.cellAt _ (by omega)
        have r2:w'.cell? ⟨gb,k * 4+2,none⟩=(zq us)[k * 4+2]?:=ho.cellAt _ (by omega)
        have r3:w'.cell? ⟨gb,k * 4+3,none⟩=(zq us)[k * 4+3]?:=ho.cellAt _ (by omega)
        have a0:=zbe us k u hu 0 (by omega)
        have a1:=zbe us k u hu 1 (by omega)
        have a2:=zbe us k u hu 2 (by omega)
        have a3:=zbe us k u hu 3 (by omega)
        simp only[Nat.add_zero]at a0
        exact⟨r0.trans a0,r1.trans a1,r2.trans a2,r3.trans a3,ho.frozenAt _,ho.frozenAt _,ho.frozenAt _,ho.frozenAt _⟩
      have HUO:Hid (OwnA wr w.heap.size u):=hA u (List.mem_of_getElem? hu)
      obtain⟨q0,q1,q2,q3,_,_,_,_⟩:=HROW.out wr (Below.refl _ _)
      have hk0:(0:Int)<=(k:Int):=Int.natCast_nonneg _
      have hk1:(k:Int) < (m:Int):=by omega
      have HKI:Hid ((ts.map AT.ch).length=(ts.map AT.ch).length):=rfl
      clear hown hA he hb hu hul HKI
      go_wp2_with fail
      generalize hw4:wr.alloc (.cells #[.string u.nm.s,.slice u.nm.A u.nm.n u.nm.c,.string u.vl.s,.slice u.vl.A u.vl.n u.vl.c] 93)=w4
      have y4:Whole w4 wr.heap.size 93 #[.string u.nm.s,.slice u.nm.A u.nm.n u.nm.c,.string u.vl.s,.slice u.vl.A u.vl.n u.vl.c]:=by rw[<-hw4];exact Whole.made _ _ _
      have HB4:Hid (Below wr.heap.size wr w4):=by rw[<-hw4];exact(Below.refl _ _).alloc (Nat.le_refl _) _
      have hz4:=y4.lt
      clear hw4 q0 q1 q2 q3
      have HKS:Hid (∀ w',Moved (fun b=>b=gb) w4 w'->w'.cell? ⟨wr.heap.size,0,none⟩=some (.string u.nm.s)/\w'.cell? ⟨wr.heap.size,1,none⟩=some (.slice u.nm.A u.nm.n u.nm.c)/\w'.cell? ⟨wr.heap.size,2,none⟩=some (.string u.vl.s)/\w'.cell? ⟨wr.heap.size,3,none⟩=some (.slice u.vl.A u.vl.n u.vl.c)/\Moved (fun b=>b=gb) w4 w'):=fun w' h=>by
        have y:=h.whole y4 (fun h=>by omega)
        exact⟨y.at_ 0,y.at_ 1,y.at_ 2,y.at_ 3,h⟩
      have HUK:Hid (∀ w',Below w4.heap.size w4 w'->u.nm.ok w' w'.heap.size/\u.vl.ok w' w'.heap.size):=fun w' h=>by
        have h1:=(HUO.out.below (HB4.out)).below h
        exact⟨h1.1.ok,h1.2.ok⟩
      have HROW4:Hid (∀ w',Below w4.heap.size w4 w'->w'.cell? ⟨gb,k * 4,none⟩=some (.string u.nm.s)/\w'.cell? ⟨gb,k * 4+1,none⟩=some (.slice u.nm.A u.nm.n u.nm.c)/\w'.cell? ⟨gb,k * 4+2,none⟩=some (.string u.vl.s)/\w'.cell? ⟨gb,k * 4+3,none⟩=some (.slice u.vl.A u.vl.n u.vl.c)/\
          w'.frozen? ⟨gb,k * 4,none⟩=false/\w'.frozen? ⟨gb,k * 4+1,none⟩=false/\w'.frozen? ⟨gb,k * 4+2,none⟩=false/\w'.frozen? ⟨gb,k * 4+3,none⟩=false):=fun w' h=>HROW.out w' (zf HB4.out (Nat.le_refl _) h)
      have HFIN:Hid (∀ (t1 t2:LT) w5 w6,Below w4.heap.size w4 w5->Below w5.heap.size w5 w6->t1.ch=g u.nm.ch->t2.ch=g u.vl.ch->OwnL w5 w4.heap.size t1->OwnL w6 w5.heap.size t2->
          zhZ g L (some ⟨gb,0,none⟩) m c1 w (.int .i64 ((k:Int)+1)) ((((w6.setCell ⟨gb,k * 4,none⟩ (.string t1.s)).setCell ⟨gb,k * 4+1,none⟩ (.slice t1.A t1.n t1.c)).setCell ⟨gb,k * 4+2,none⟩ (.string t2.s)).setCell ⟨gb,k * 4+3,none⟩ (.slice t2.A t2.n t2.c))):=by
        intro t1 t2 w5 w6 hb5 hb6 e1 e2 o1 o2
        have hb46:=zf hb5 (Nat.le_refl _) hb6
        have hbr6:=zf HB4.out (Nat.le_refl _) hb46
        have hz5:=hb5.size
        obtain⟨p1,p2,p3⟩:=zju (k:=k) (t:=⟨t1,t2⟩) (zJ HOW.out hbr6) (HA.out.below hbr6) ⟨(o1.below hb6).mono (by omega),o2.mono (by omega)⟩ (by rw[HUL.out];exact hlt) HUL.out
        rw[List.length_set,HUL.out]at p1
        have hx:L[k]?=some u.ch:=by
          have h1:(us.map AT.ch)[k]?=some u.ch:=ziz HU.out
          rw[HE.out,List.getElem?_append_right (by rw[List.length_map,List.length_take];omega),List.length_map,List.length_take,List.getElem?_drop]at h1
          have h2:min k L.length=k:=by rw[<-HLEN.out];omega
          rw[h2,Nat.sub_self]at h1
          exact h1
        refine⟨k+1,us.set k ⟨t1,t2⟩,by omega,by simp,by rw[List.length_set];exact HUL.out,p1,p2,zlK hx HE.out ?_,(zf HB.out (Nat.le_refl _) hbr6).trans p3⟩
        show(t1.ch,t2.ch)=_
        rw[e1,e2]
        rfl
      have e0:w4.cell? ⟨wr.heap.size,0,none⟩=some (.string u.nm.s):=y4.at_ 0
      go_wp2_with fail
      clear e0
      go_region_held3 (fun w'=>w'.cell? ⟨wr.heap.size,0,none⟩=some (.string u.nm.s)/\w'.cell? ⟨wr.heap.size,1,none⟩=some (.slice u.nm.A u.nm.n u.nm.c)/\w'.cell? ⟨wr.heap.size,2,none⟩=some (.string u.vl.s)/\w'.cell? ⟨wr.heap.size,3,none⟩=some (.slice u.vl.A u.vl.n u.vl.c)/\Moved (fun b=>b=gb) w4 w')
        (first
          | exact HKS.out _ (Moved.drew (Moved.refl _ _))
          | (go_split_ands;exact HKS.out _ (by assumption))
          | (go_split_ands;exact HKS.out _ (Moved.of_below hbA))
          | (go_split_ands;exact HKS.out _ (Moved.of_below hbB))
          | exact HKS.out _ (((((Moved.of_below hbB).setCell (S:=fun b=>b=gb) (p:=⟨gb,k * 4,none⟩) rfl _).setCell (p:=⟨gb,k * 4+1,none⟩) rfl _).setCell (p:=⟨gb,k * 4+2,none⟩) rfl _).setCell (p:=⟨gb,k * 4+3,none⟩) rfl _))
        (first
          | (refine zbT _ rfl _ _ _ rfl F rfl HF.out.enters (.agg #[.string u.nm.s,.slice u.nm.A u.nm.n u.nm.c]) rfl (HF.out.tells u.nm _ (HUK.out _ (Below.drew (Below.refl _ _))).1) ?_;rintro e w5 ⟨t1,rfl,h1,hb5⟩;refine⟨_,rfl,?_⟩;have hbA:Below w4.heap.size w4 w5:=(Below.drew (Below.refl _ w4)).trans hb5)
          | (refine zbT _ rfl _ _ _ rfl F rfl HF.out.enters (.agg #[.string u.vl.s,.slice u.vl.A u.vl.n u.vl.c]) rfl (HF.out.tells u.vl _ (HUK.out _ hbA).2) ?_;rintro e w6 ⟨t2,rfl,h2,hb6⟩;refine⟨_,rfl,?_⟩;have hbB:Below w4.heap.size w4 w6:=zf hbA (Nat.le_refl _) hb6;obtain⟨q0,q1,q2,q3,f0,f1,f2,f3⟩:=HROW4.out _ hbB))
      all_goals
        have HX:=Lib.hid (HFIN.out t1 t2 w5 w6 hbA hb6 h1.out.1 h2.out.1 h1.out.2 h2.out.2)
        clear q0 q1 q2 q3 f0 f1 f2 f3 hbA hbB hb5 hb6 h1 h2
        go_wp2_with fail
        go_roundw
        case rel=>exact HX.out
        case measure=>simp [intOf];omega
    . obtain rfl:k=m:=by omega
      have hcut:us.map AT.ch=L.map (gA g):=by
        rw[HE.out,List.take_of_length_le (by rw[<-HLEN.out];exact Nat.le_refl _),List.drop_of_length_le (by rw[<-HLEN.out];exact Nat.le_refl _),List.append_nil]
      have HFIN:Hid (zgA (L.map (gA g)) w (.returned (.slice A1 k c1)) wr):=⟨A1,c1,us,by rw[HUL.out],by rw[HUL.out];exact HOW.out,HA.out,hcut,HB.out⟩
      clear hown hA he hb hul hcut
      go_wp2_with fail
      go_ret
      exact HFIN.out
end Go.Proofs.YtddgabjhligeeaaGreat.mk
