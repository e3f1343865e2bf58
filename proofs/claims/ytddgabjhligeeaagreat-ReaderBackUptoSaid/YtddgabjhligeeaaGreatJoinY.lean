import Derived.Test.YtddgabjhligeeaaGreatJoinX
import Derived.Laws.EntriesVeiled
set_option maxHeartbeats 4000000
set_option maxRecDepth 100000
namespace Go.Proofs.YtddgabjhligeeaaGreat.mk
open Go.RowKit Go.Maps
theorem KeptPost.tells{S:Nat->Prop}{I:World->Prop}{qs:List PA}{w w0 w':World}{e:Ending}(h:KeptPost S I qs w0 e w')(hb:Below w.heap.size w w0)(hS:∀ g,S g->w.heap.size<=g):zi5 qs w e w':=by
  obtain⟨A,c,ts,h1,h2,h3,h4,h5,_⟩:=h
  exact⟨A,c,ts,h1,zD h2 hb.size,h3.mono hb.size,h4,hb.trans (h5.below hb.size (fun k hk hs=>by have:=hS k hs;omega))⟩
theorem zd6(A:Option Addr)(n c:Nat)(ts:List AT)(w:World)(hl:Lies w w.heap.size A (zm ts))(hok:AllOk w w.heap.size ts)(hn:ts.length=n)(hn2:n<=4294967295) :
    Calls Tryz.prog 131 #[.slice A n c] w (zi5 (zH (ts.map AT.ch)) w):=by
  have HN:=Lib.hid hn
  have HL:=Lib.hid hl
  have HOK:=Lib.hid hok
  clear hn hl hok
  go_enter Tryz.func131,Tryz.ntmps131
  go_wp2_with fail
  refine(zoE w).mono ?_
  rintro e w1 ⟨rfl,y1,hM1,hb1⟩
  have hz1:=y1.lt
  have hne:=zjd hM1 y1
  go_wp2_with fail
  refine(zlK 178 #[.pointer (some ⟨w.heap.size+1,0,none⟩)] (·=w.heap.size) (fun k w'=>(w'.cell? ⟨w.heap.size+1,0,none⟩=some (.map (some w.heap.size))/\w1.heap.size<=w'.heap.size)/\MapF w' w.heap.size k (cntN (ts.map AT.ch) k)) (zbm (ts.map AT.ch)) w.heap.size A n c ts w1 (HL.out.below hb1) (HOK.out.keep (fun _ hp=>hb1.cell hp)) HN.out (by omega) (fun _ _=>rfl) (by omega) (fun g h=>by omega) (fun _ w' w'' h hb=>⟨⟨(hb.cell hz1).trans h.1.1,Nat.le_trans h.1.2 hb.size⟩,h.2.same (hb.block _ (by omega))⟩) ⟨⟨y1.at_ 0,Nat.le_refl _⟩,hM1⟩ ?_).mono ?_
  . intro k t w' ht hI hto hz
    have hkn:k < n:=by rw[<-HN.out];exact(List.getElem?_eq_some_iff.1 ht).1
    have hcl:=zte (ts.map AT.ch) k t.nm.bs
    refine(zmF t (w.heap.size+1) w.heap.size k (cntN (ts.map AT.ch) k) w' hI.1.1 (by omega) hI.2 ⟨hcl.1,by omega⟩ (by omega) hto.1.2.2.2).mono ?_
    rintro e w'' ⟨rfl,hM,hmv⟩
    have hct:=zoC (zd4 ht)
    have hcx:=zoB (zd4 ht)
    rw[AT.nmB]at hct hcx
    refine⟨by rw[hct],⟨⟨(hmv.cell (World.block_lt_of_cell? w' _ hI.1.1) (by show ¬ (w.heap.size+1=w.heap.size);omega)).trans hI.1.1,Nat.le_trans hz hmv.size⟩,by rw[hcx];exact hM⟩,hmv⟩
  . intro e w3 h
    obtain⟨A3,c3,us,rfl,h2,h3,h4,h5⟩:=h.tells hb1 (fun g h=>by omega)
    have H2:=Lib.hid h2
    have H3:=Lib.hid h3
    clear h2 h3 h
    go_wp2
    go_ret
    exact⟨A3,c3,us,rfl,H2.out,H3.out,h4,h5⟩
theorem zkq(ts:List AT)(k:Nat)(t:AT)(hk:k < ts.length) :
    ((((zm ts).set (k * 4) (.string t.nm.s)).set (k * 4+1) (.slice t.nm.A t.nm.n t.nm.c)).set (k * 4+2) (.string t.vl.s)).set (k * 4+3) (.slice t.vl.A t.vl.n t.vl.c)=zm (ts.set k t):=by
  have e:ts=ts.take k++ ts[k]::ts.drop (k+1):=by rw[List.getElem_cons_drop,List.take_append_drop]
  have hl:(zm (ts.take k)).length=k * 4:=by rw[zdx,List.length_take];congr 1;omega
  generalize ts[k]=x at e
  have e2:ts.set k t=ts.take k++ t::ts.drop (k+1):=by
    conv=>lhs;rw[e]
    rw[List.set_append_right _ _ (by rw[List.length_take];omega),List.length_take]
    have:k - min k ts.length=0:=by omega
    rw[this]
    rfl
  rw[e2]
  conv=>lhs;rw[e]
  generalize ts.take k=p at *
  generalize ts.drop (k+1)=q at *
  have h1:∀ y:AT,zm (p++ y::q)=zm p++ (zcU y++ zm q):=fun y=>by simp [zm]
  rw[h1,h1]
  rw[List.set_append_right _ _ (by omega),hl,Nat.sub_self]
  rw[List.set_append_right _ _ (by omega),hl,show k * 4+1 - k * 4=1 by omega]
  rw[List.set_append_right _ _ (by omega),hl,show k * 4+2 - k * 4=2 by omega]
  rw[List.set_append_right _ _ (by omega),hl,show k * 4+3 - k * 4=3 by omega]
  rfl
theorem AllOwn.stored{w:World}{base base' n cap g j:Nat}{xs:List Value}{ts:List AT}(h:AllOwn w base ts)(ho:w.ownsRow base' 93 4 (.slice (some ⟨g,0,none⟩) n cap) n xs)(u:Value):AllOwn (w.setCell ⟨g,j,none⟩ u) base ts:=
  fun t ht=>(h t ht).grown ho (by decide) (ho.stored j u).2
theorem zmH{w:World}{base n cap g k:Nat}{ts:List AT}{t:AT}(ho:w.ownsRow base 93 4 (.slice (some ⟨g,0,none⟩) n cap) n (zm ts))(hA:AllOwn w base ts)(ht:OwnA w base t)(hk:k < ts.length)(hn:ts.length=n) :
    let w':=(((w.setCell ⟨g,k * 4,none⟩ (.string t.nm.s)).setCell ⟨g,k * 4+1,none⟩ (.slice t.nm.A t.nm.n t.nm.c)).setCell ⟨g,k * 4+2,none⟩ (.string t.vl.s)).setCell ⟨g,k * 4+3,none⟩ (.slice t.vl.A t.vl.n t.vl.c)
    w'.ownsRow base 93 4 (.slice (some ⟨g,0,none⟩) (ts.set k t).length cap) (ts.set k t).length (zm (ts.set k t))/\AllOwn w' base (ts.set k t)/\Below base w w':=by
  intro w'
  have o1:=(ho.stored (k * 4) (.string t.nm.s)).1
  have o2:=(o1.stored (k * 4+1) (.slice t.nm.A t.nm.n t.nm.c)).1
  have o3:=(o2.stored (k * 4+2) (.string t.vl.s)).1
  have o4:=(o3.stored (k * 4+3) (.slice t.vl.A t.vl.n t.vl.c)).1
  have hS:AllOwn w base (ts++ [t]):=hA.snoc ht
  have hS4:=(((hS.stored (j:=k * 4) ho (.string t.nm.s)).stored (j:=k * 4+1) o1 (.slice t.nm.A t.nm.n t.nm.c)).stored (j:=k * 4+2) o2 (.string t.vl.s)).stored (j:=k * 4+3) o3 (.slice t.vl.A t.vl.n t.vl.c)
  have hg:base<=g:=(ho.lt g rfl).1
  refine⟨?_,fun x hx=>hS4 x ?_,?_⟩
  . rw[List.length_set,hn,<-zkq ts k t hk]
    exact o4
  . rcases List.mem_or_eq_of_mem_set hx with h | h
    . exact List.mem_append_left _ h
    . rw[h];exact List.mem_append_right _ (by simp)
  . exact((((Below.refl base w).setCell (p:=⟨g,k * 4,none⟩) hg _).setCell (p:=⟨g,k * 4+1,none⟩) hg _).setCell (p:=⟨g,k * 4+2,none⟩) hg _).setCell (p:=⟨g,k * 4+3,none⟩) hg _
def zgb(ns:List ByteArray):List Value:=ns.map Value.string
def zoG(ps:List PA)(ds:List (List UInt8))(w:World)(e:Ending)(w':World):Prop:=
  ∃ A c ts A2 c2 ns,e=.returned (.tuple #[.slice A ts.length c,.slice A2 ns.length c2])/\w'.ownsRow w.heap.size 93 4 (.slice A ts.length c) ts.length (zm ts)/\AllOwn w' w.heap.size ts/\ts.map AT.ch=ps/\
    w'.ownsRow w.heap.size 9 1 (.slice A2 ns.length c2) ns.length (zgb ns)/\ns.map (fun s=>s.data.toList)=ds/\(∀ s∈ns,s.size<=4294967296)/\Below w.heap.size w w'
theorem zkr:(Tryz.prog.info? 9).map (fun i=>(i.zero,i.size,i.bytes))=some (some (.string ⟨#[]⟩),1,16):=by kernel_rfl
def zoH(f:PA->Bool)(L:List PA)(z:Nat)(w0:World)(v i:Value)(wr:World):Prop:=
  ∃ (k:Nat) (ns:List ByteArray),k<=z/\i=.int .i64 (k:Int)/\wr.ownsRow w0.heap.size 9 1 v ns.length (zgb ns)/\ns.map (fun s=>s.data.toList)=(zaB (isI f L) L k).map nmB/\(∀ s∈ns,s.size<=4294967296)/\Below w0.heap.size w0 wr
theorem zre(L:List PA)(nm:List UInt8):(getA L nm).isNone=decide (plI L nm < 0):=by
  unfold getA plI
  by_cases h:zP L nm < L.length
  . rw[if_pos h,List.getElem?_eq_getElem h]
    simp
  . rw[if_neg h,List.getElem?_eq_none (by omega)]
    rfl
theorem zks(A:Option Addr)(n c:Nat)(ts:List AT)(B:Option Addr)(m d:Nat)(bs:List AT)(w:World)(hl:Lies w w.heap.size A (zm ts))(hok:AllOk w w.heap.size ts)(hn:ts.length=n)(hn2:n<=4294967295)
    (hl':Lies w w.heap.size B (zm bs)) (hok':AllOk w w.heap.size bs) (hm:bs.length=m) (hm2:m<=4294967295) :
    Calls Tryz.prog 136 #[.slice A n c,.slice B m d] w (zoG (zhV (ts.map AT.ch) (bs.map AT.ch)) ((zhW (ts.map AT.ch) (bs.map AT.ch)).map nmB) w):=by
  obtain⟨i0,hi,hz0,hz1,hz2⟩:=info_parts zkr
  have HN:=Lib.hid hn
  have HL:=Lib.hid hl
  have HOK:=Lib.hid hok
  have HM:=Lib.hid hm
  have HL':=Lib.hid hl'
  have HOK':=Lib.hid hok'
  clear hn hl hok hm hl' hok'
  have HD:Hid (zhV (ts.map AT.ch) (bs.map AT.ch)=zn1 (zH (ts.map AT.ch)) (zH (bs.map AT.ch))/\zhW (ts.map AT.ch) (bs.map AT.ch)=zhT (zH (ts.map AT.ch)) (zH (bs.map AT.ch))):=⟨rfl,rfl⟩
  have hlenA:(zH (ts.map AT.ch)).length<=n:=by have:=zdD (zbm (ts.map AT.ch)) (ts.map AT.ch);rw[List.length_map,HN.out]at this;exact this
  have hlenB:(zH (bs.map AT.ch)).length<=m:=by have:=zdD (zbm (bs.map AT.ch)) (bs.map AT.ch);rw[List.length_map,HM.out]at this;exact this
  have HEA:=Lib.hid (zhb (ts.map AT.ch))
  have HEB:=Lib.hid (zhb (bs.map AT.ch))
  go_enter Tryz.func136,Tryz.ntmps136
  go_wp2_with fail
  generalize hw0:w.alloc (.cells #[.slice A n c] 46)=w0
  have y0:Whole w0 w.heap.size 46 #[.slice A n c]:=by rw[<-hw0];exact Whole.made _ _ _
  have hb0:Below w.heap.size w w0:=by rw[<-hw0];exact(Below.refl _ _).alloc (Nat.le_refl _) _
  clear hw0
  refine(zd6 A n c ts w0 (HL.out.next hb0 (Nat.le_refl _)) (HOK.out.next hb0 (Nat.le_refl _)) HN.out hn2).mono ?_
  rintro e w1 ⟨A1,c1,us,rfl,h1,h2,h3,hb1⟩
  have hbw1:=zb hb0 (Nat.le_refl _) hb1
  have H1:=Lib.hid h1
  have H2:=Lib.hid h2
  have H3:=Lib.hid h3
  clear h1 h2 h3
  go_wp2_with fail
  refine(zd6 B m d bs w1 (HL'.out.next hbw1 (Nat.le_refl _)) (HOK'.out.next hbw1 (Nat.le_refl _)) HM.out hm2).mono ?_
  rintro e w2 ⟨A2,c2,vs,rfl,h1,h2,h3,hb2⟩
  have G1:=Lib.hid h1
  have G2:=Lib.hid h2
  have G3:=Lib.hid h3
  clear h1 h2 h3
  have hbw2:=zb hbw1 (Nat.le_refl _) hb2
  have y2:=(y0.below hb1 y0.lt).below hb2 (y0.below hb1 y0.lt).lt
  have f0:=y2.free 0
  have d0:w2.cell? ⟨w.heap.size,0,none⟩=some (.slice A n c):=y2.at_ 0
  have hzu:us.length<=n:=by have:=congrArg List.length H3.out;rw[List.length_map]at this;omega
  have hzv:vs.length<=m:=by have:=congrArg List.length G3.out;rw[List.length_map]at this;omega
  generalize hzu1:us.length=zu at *
  have HZU:=Lib.hid hzu1
  clear hzu1
  generalize hzv1:vs.length=zv at *
  have HZV:=Lib.hid hzv1
  clear hzv1
  go_wp2_with fail
  have hlt0:=y0.lt
  have hz01:=hb1.size
  have hz12:=hb2.size
  have o1:w2.ownsRow w0.heap.size 93 4 (.slice A1 zu c1) zu (zm us):=zO H1.out hb2
  have a1:AllOwn w2 w0.heap.size us:=H2.out.below hb2
  generalize hw3:w2.setCell ⟨w.heap.size,0,none⟩ (.slice A1 zu c1)=w3
  have y3:Whole w3 w.heap.size 46 #[.slice A1 zu c1]:=by rw[<-hw3];exact y2.put 0 _
  have hbw3:Below w.heap.size w w3:=by rw[<-hw3];exact hbw2.setCell (p:=⟨w.heap.size,0,none⟩) (Nat.le_refl _) _
  have hz3:w2.heap.size<=w3.heap.size:=by rw[<-hw3];simp
  have HU1:Hid (w3.ownsRow w0.heap.size 93 4 (.slice A1 zu c1) zu (zm us)):=by
    show World.ownsRow _ _ _ _ _ _ _
    rw[<-hw3]
    exact zQ o1 _ (fun h=>by have:=(o1.lt _ h).1;simp at this;omega) _
  have HU2:Hid (AllOwn w3 w0.heap.size us):=by
    show AllOwn _ _ _
    rw[<-hw3]
    exact fun t ht=>⟨(a1 t ht).1.far hlt0 _,(a1 t ht).2.far hlt0 _⟩
  have HV1:Hid (w3.ownsRow w1.heap.size 93 4 (.slice A2 zv c2) zv (zm vs)):=by
    show World.ownsRow _ _ _ _ _ _ _
    rw[<-hw3]
    exact zQ G1.out _ (fun h=>by have:=(G1.out.lt _ h).1;simp at this;omega) _
  have HV2:Hid (AllOwn w3 w1.heap.size vs):=by
    show AllOwn _ _ _
    rw[<-hw3]
    exact fun t ht=>⟨(G2.out t ht).1.far (by omega) _,(G2.out t ht).2.far (by omega) _⟩
  clear o1 a1 hw3 d0 f0 y2
  refine(zhd A1 zu c1 us w3 (Lies.own HU1.out) HU2.out.ok HZU.out (by omega)).mono ?_
  rintro e w4 ⟨rfl,p1,p2,hb4⟩
  have HP1:=Lib.hid p1
  have HP2:=Lib.hid p2
  clear p1 p2
  go_wp2_with fail
  refine(zhd A2 zv c2 vs w4 ((Lies.own HV1.out).next hb4 (Nat.le_refl _)) (HV2.out.ok.next hb4 (Nat.le_refl _)) HZV.out (by omega)).mono ?_
  rintro e w5 ⟨rfl,p1,p2,hb5⟩
  have HR1:=Lib.hid p1
  have HR2:=Lib.hid p2
  clear p1 p2
  have hz34:=hb4.size
  have hz45:=hb5.size
  go_wp2_with fail
  generalize hw6:w5.alloc (.cells #[.func (.func 181) #[] #[.pointer (some ⟨w3.heap.size+1,0,none⟩)]] 175)=w6
  have y6:Whole w6 w5.heap.size 175 #[.func (.func 181) #[] #[.pointer (some ⟨w3.heap.size+1,0,none⟩)]]:=by rw[<-hw6];exact Whole.made _ _ _
  have hb6:Below w5.heap.size w5 w6:=by rw[<-hw6];exact(Below.refl _ _).alloc (Nat.le_refl _) _
  clear hw6
  have hb46:=zb hb5 (Nat.le_refl _) hb6
  have hb36:=zb hb4 (Nat.le_refl _) hb46
  have hbw6:=zb hbw3 (by omega) hb36
  have LU:Lies w6 w6.heap.size A1 (zm us):=(Lies.own HU1.out).next hb36 (Nat.le_refl _)
  have OU:AllOk w6 w6.heap.size us:=HU2.out.ok.next hb36 (Nat.le_refl _)
  have LV:Lies w6 w6.heap.size A2 (zm vs):=(Lies.own HV1.out).next hb36 (Nat.le_refl _)
  have OV:AllOk w6 w6.heap.size vs:=HV2.out.ok.next hb36 (Nat.le_refl _)
  have q1:w6.cell? ⟨w5.heap.size,0,none⟩=some (.func (.func 181) #[] #[.pointer (some ⟨w3.heap.size+1,0,none⟩)]):=y6.at_ 0
  have q2:w6.cell? ⟨w.heap.size,0,none⟩=some (.slice A1 zu c1):=(y3.below hb36 y3.lt).at_ 0
  have q3:w6.cell? ⟨w3.heap.size+1,0,none⟩=some (.map (some w3.heap.size)):=(HP1.out.below hb46 HP1.out.lt).at_ 0
  have q4:MapF w6 w3.heap.size zu (whF (us.map AT.ch) zu):=HP2.out.below hb46
  have q5:w6.cell? ⟨w4.heap.size+1,0,none⟩=some (.map (some w4.heap.size)):=(HR1.out.below hb6 HR1.out.lt).at_ 0
  have q6:MapF w6 w4.heap.size zv (whF (vs.map AT.ch) zv):=HR2.out.below hb6
  have hzz6:=hb6.size
  have HQ:=Lib.hid (And.intro q1 (And.intro q2 (And.intro q3 q4)))
  have HQ5:=Lib.hid q5
  have HQ6:=Lib.hid q6
  have HLU:=Lib.hid LU
  have HOU:=Lib.hid OU
  clear q1 q2 q3 q4 q5 q6 LU OU
  refine(zlK 166 #[.pointer (some ⟨w5.heap.size,0,none⟩),.pointer (some ⟨w.heap.size,0,none⟩)] (fun _=>False) (fun _ w'=>Below w6.heap.size w6 w') (isI (putP (us.map AT.ch)) (vs.map AT.ch)) w6.heap.size A2 zv c2 vs w6 LV OV HZV.out (by omega) (fun _ _=>rfl) (Nat.le_refl _) (fun _ h=>h.elim) (fun _ w' w'' h hb=>h.trans hb) (Below.refl _ _) ?_).mono ?_
  . intro k t w' ht hI hto hz
    have hc:=fun(p:Addr) (v:Value) (h:w6.cell? p=some v)=>(hI.cell (World.block_lt_of_cell? w6 _ h)).trans h
    refine(zje t w5.heap.size w.heap.size (w3.heap.size+1) w3.heap.size zu A1 c1 us w' (hc _ _ HQ.out.1) (hc _ _ HQ.out.2.1) (hc _ _ HQ.out.2.2.1) (HQ.out.2.2.2.below hI) (by rw[H3.out];exact HEA.out) (HLU.out.next hI (Nat.le_refl _)) (HOU.out.next hI (Nat.le_refl _)) HZU.out (by omega) hto).mono ?_
    rintro e w'' ⟨rfl,hb⟩
    exact⟨by rw[zb7 (zd4 ht)],zb hI (Nat.le_refl _) hb,Moved.of_below hb⟩
  intro e w7 h
  obtain⟨A7,c7,ps,rfl,h1,h2,h3,hb7⟩:=h.tells (Below.refl w6.heap.size w6) (fun _ h=>h.elim)
  have K1:=Lib.hid h1
  have K2:=Lib.hid h2
  have K3:Hid (ps.map AT.ch=zhV (ts.map AT.ch) (bs.map AT.ch)):=by
    show _=_
    rw[h3,HD.out.1,H3.out,G3.out]
    rfl
  clear h1 h2 h3 h
  generalize hzp1:ps.length=zp at *
  have HZP:=Lib.hid hzp1
  clear hzp1
  have e2:w7.cell? ⟨w.heap.size,0,none⟩=some (.slice A1 zu c1):=(hb7.cell (World.block_lt_of_cell? w6 _ HQ.out.2.1)).trans HQ.out.2.1
  have e5:=(hb7.cell (World.block_lt_of_cell? w6 _ HQ5.out)).trans HQ5.out
  have HE5:=Lib.hid e5
  have HE6:=Lib.hid (HQ6.out.below hb7)
  have HLU7:=Lib.hid (HLU.out.next hb7 (Nat.le_refl _))
  have HOU7:=Lib.hid (HOU.out.next hb7 (Nat.le_refl _))
  have hbw7:=zb hbw6 (by omega) hb7
  have hz67:=hb7.size
  clear e5 LV OV
  have hLz:(us.map AT.ch).length=zu:=by rw[List.length_map];exact HZU.out
  have HLZ:=Lib.hid hLz
  have HF3:Hid ((zaB (isI (fun x=>(getA (vs.map AT.ch) (nmB x)).isNone) (us.map AT.ch)) (us.map AT.ch) zu).map nmB=(zhW (ts.map AT.ch) (bs.map AT.ch)).map nmB):=by
    show _=_
    rw[HD.out.2,<-H3.out,<-G3.out]
    unfold zhT sel
    rw[hLz]
  have HPLV:=Lib.hid (fun nm=>zoD (L:=vs.map AT.ch) (by rw[G3.out];exact HEB.out) nm)
  have hVz:(vs.map AT.ch).length=zv:=by rw[List.length_map];exact HZV.out
  rw[hVz]at HPLV
  have HVZ:=Lib.hid hVz
  clear hLz hVz
  go_wp2_with fail
  go_loopw [9,25] (zoH (fun x=>(getA (vs.map AT.ch) (nmB x)).isNone) (us.map AT.ch) zu w7) (fun _ i _=>zu - (intOf i).toNat)
  case atStart=>exact⟨0,[],Nat.zero_le _,rfl,World.ownsRow_nil _ _ _ _,rfl,(by intro s hs;cases hs),Below.refl _ _⟩
  case round=>
    obtain⟨k,ns,hk,rfl,hown,hns,hsz,hb⟩:=hrel
    have hzr:=hb.size
    have hnl:ns.length<=k:=by
      have h1:=zdU (isI (fun x=>(getA (vs.map AT.ch) (nmB x)).isNone) (us.map AT.ch)) (us.map AT.ch) k
      have h2:=congrArg List.length hns
      rw[List.length_map,List.length_map]at h2
      omega
    obtain⟨A9,c9,rfl,_,_,_⟩:=zg hown
    have HOWN:=Lib.hid hown
    have HNS:=Lib.hid hns
    have HSZ:=Lib.hid hsz
    have HB:=Lib.hid hb
    clear hown hns hsz
    by_cases hlt:k < zu
    . obtain⟨ad,t,rfl,hbA,d0,d1,d2,d3,HR⟩:=(HLU7.out.below hb).att (k:=k) (by rw[HZU.out];exact hlt)
      have hk0:(0:Int)<=(k:Int):=Int.natCast_nonneg _
      have hk1:(k:Int) < (zu:Int):=by omega
      have HRC:=Lib.hid (zd4 HR.out)
      have hts:=(HOU7.out.get HR.out).1.2.2.2
      have hwl:=zsD (vs.map AT.ch) zv t.nm.s.data.toList
      clear hb
      go_wp2_with fail
      generalize hw8:wr.alloc (.cells #[.string t.nm.s,.slice t.nm.A t.nm.n t.nm.c,.string t.vl.s,.slice t.vl.A t.vl.n t.vl.c] 93)=w8
      have y8:Whole w8 wr.heap.size 93 #[.string t.nm.s,.slice t.nm.A t.nm.n t.nm.c,.string t.vl.s,.slice t.vl.A t.vl.n t.vl.c]:=by rw[<-hw8];exact Whole.made _ _ _
      have hb8:Below wr.heap.size wr w8:=by rw[<-hw8];exact(Below.refl _ _).alloc (Nat.le_refl _) _
      clear hw8 d0 d1 d2 d3
      have hb78:=zb HB.out (Nat.le_refl _) hb8
      refine(zga t.nm.s (w4.heap.size+1) w4.heap.size zv _ w8 ((hb78.cell (World.block_lt_of_cell? w7 _ HE5.out)).trans HE5.out) (HE6.out.below hb78) ⟨hwl.1,by omega⟩ hts).mono ?_
      rw[HPLV.out t.nm.s.data.toList]
      rintro e w' ⟨rfl,rfl⟩
      have e0:w8.cell? ⟨wr.heap.size,0,none⟩=some (.string t.nm.s):=y8.at_ 0
      have hsel:isI (fun x=>(getA (vs.map AT.ch) (nmB x)).isNone) (us.map AT.ch) k=decide (plI (vs.map AT.ch) t.nm.s.data.toList < 0):=by
        rw[zb7 HRC.out,zre,AT.nmB]
        rfl
      have hown8:=zO HOWN.out hb8
      generalize hpi:plI (vs.map AT.ch) t.nm.s.data.toList=pi at *
      clear hpi hwl
      generalize hz9:ns.length=z9 at *
      have HZ9:=Lib.hid hz9
      clear hz9
      by_cases hp:pi < 0
      . have HSEL:Hid (zaB (isI (fun x=>(getA (vs.map AT.ch) (nmB x)).isNone) (us.map AT.ch)) (us.map AT.ch) (k+1)=zaB (isI (fun x=>(getA (vs.map AT.ch) (nmB x)).isNone) (us.map AT.ch)) (us.map AT.ch) k++ [t.ch]):=by
          show _=_
          rw[zbq HRC.out,hsel,decide_eq_true hp,if_pos rfl]
        clear hsel
        go_wp2_with (at_builtin;refine wpList_append_own_at _ rfl _ _ 159 rfl w7.heap.size 9 i0 _ 1 16 Tryz.underlying159 hi hz0 hz1 hz2 rfl (by decide) (.slice A9 z9 c9) z9 _ rfl (hown8.alloc _) ⟨w8.heap.size,0,none⟩ 1 1 [.string t.nm.s] rfl rfl (zab w8 _ _) (by simp [Value.oneCell']) (by simp only[maxLen];omega) (by omega) (by have:=hb78.size;simp;omega) ?_)
        intro v' w9 hown9 hgrow _ _
        obtain⟨A10,c10,rfl,_,_,_⟩:=zg hown9
        have HREL:Hid (zoH (fun x=>(getA (vs.map AT.ch) (nmB x)).isNone) (us.map AT.ch) zu w7 (.slice A10 (z9+1) c10) (.int .i64 ((k:Int)+1)) w9):=by
          have hl1:(ns++ [t.nm.s]).length=z9+1:=by rw[List.length_append,HZ9.out];rfl
          refine⟨k+1,ns++ [t.nm.s],by omega,by simp,?_,?_,?_,?_⟩
          . rw[hl1,show zgb (ns++ [t.nm.s])=zgb ns++ [.string t.nm.s] by simp [zgb]]
            exact hown9
          . rw[HSEL.out,List.map_append,List.map_append,HNS.out,List.map_singleton,List.map_singleton,AT.nmB]
            rfl
          . intro s hs
            rcases List.mem_append.1 hs with hs | hs
            . exact HSZ.out s hs
            . simp at hs;rw[hs];exact hts
          . exact(hb78.alloc hb78.size _).grown hgrow (by have:=hb78.size;simp;omega) (fun g hg=>(HOWN.out.lt g hg).1)
        clear hgrow hown9 hown8
        go_wp2_with fail
        go_roundw
        case rel=>exact HREL.out
        case measure=>simp [intOf];omega
      . have HREL:Hid (zoH (fun x=>(getA (vs.map AT.ch) (nmB x)).isNone) (us.map AT.ch) zu w7 (.slice A9 z9 c9) (.int .i64 ((k:Int)+1)) w8):=by
          refine⟨k+1,ns,by omega,by simp,by rw[HZ9.out];exact hown8,?_,HSZ.out,hb78⟩
          rw[zbq HRC.out,hsel,decide_eq_false hp,HNS.out]
          simp
        clear hsel hown8
        go_wp2_with fail
        go_roundw
        case rel=>exact HREL.out
        case measure=>simp [intOf];omega
    . obtain rfl:k=zu:=by omega
      have hwk:w.heap.size<=w7.heap.size:=by omega
      have HFIN:Hid (zoG (zhV (ts.map AT.ch) (bs.map AT.ch)) ((zhW (ts.map AT.ch) (bs.map AT.ch)).map nmB) w (.returned (.tuple #[.slice A7 zp c7,.slice A9 ns.length c9])) wr):=by
        refine⟨A7,c7,ps,A9,c9,ns,by rw[HZP.out],?_,?_,K3.out,zD HOWN.out hwk,?_,HSZ.out,zb hbw7 (by omega) HB.out⟩
        . rw[HZP.out];exact zD (zO K1.out HB.out) (by omega)
        . exact(K2.out.below HB.out).mono (by omega)
        . rw[HNS.out,HF3.out]
      clear hb
      go_wp2
      go_ret2
      exact HFIN.out
theorem zoI(A:Option Addr)(n c:Nat)(ts:List AT)(B:Option Addr)(m d:Nat)(bs:List AT)(w:World)(hl:Lies w w.heap.size A (zm ts))(hok:AllOk w w.heap.size ts)(hn:ts.length=n)(hn2:n<=4294967295)
    (hl':Lies w w.heap.size B (zm bs)) (hok':AllOk w w.heap.size bs) (hm:bs.length=m) (hm2:m<=4294967295) :
    Calls Tryz.prog 96 #[.slice A n c,.slice B m d] w fun e w'=>e=.returned (.bool (zfl (ts.map AT.ch) (bs.map AT.ch)))/\Below w.heap.size w w':=by
  have HC:=Lib.hid (zks A n c ts B m d bs w hl hok hn hn2 hl' hok' hm hm2)
  clear hl hok hn hl' hok' hm
  go_enter Tryz.func96,Tryz.ntmps96
  go_wp2_with fail
  refine HC.out.mono ?_
  rintro e w1 ⟨A1,c1,us,A2,c2,ns,rfl,_,_,h3,_,h5,_,hb⟩
  have e1:us.length=(zhV (ts.map AT.ch) (bs.map AT.ch)).length:=by rw[<-h3,List.length_map]
  have e2:ns.length=(zhW (ts.map AT.ch) (bs.map AT.ch)).length:=by have:=congrArg List.length h5;rw[List.length_map,List.length_map]at this;exact this
  have HS:Hid (zfl (ts.map AT.ch) (bs.map AT.ch)=(decide (us.length=0) && decide (ns.length=0))):=by
    show _=_
    unfold zfl
    rw[e1,e2]
    congr 1
    . rw[Bool.eq_iff_iff,List.isEmpty_iff,decide_eq_true_iff,List.length_eq_zero_iff]
    . rw[Bool.eq_iff_iff,List.isEmpty_iff,decide_eq_true_iff,List.length_eq_zero_iff]
  clear e1 e2 h3 h5
  generalize us.length=p at *
  generalize ns.length=q at *
  by_cases hp:p=0
  . subst hp
    by_cases hq:q=0
    . subst hq
      go_wp2
      go_ret
      exact⟨by rw[HS.out];rfl,hb⟩
    . have hq':((q:Int) == 0)=false:=by rw[beq_eq_false_iff_ne];omega
      have HQ:Hid (decide (q=0)=false):=decide_eq_false hq
      go_wp2
      go_ret
      exact⟨by rw[HS.out,HQ.out];rfl,hb⟩
  . have hp':((p:Int) == 0)=false:=by rw[beq_eq_false_iff_ne];omega
    have HP:Hid (decide (p=0)=false):=decide_eq_false hp
    go_wp2
    go_ret
    exact⟨by rw[HS.out,HP.out];rfl,hb⟩
end Go.Proofs.YtddgabjhligeeaaGreat.mk
namespace Go.Proofs.YtddgabjhligeeaaGreat.mk
open Go.RowKit
theorem zrf(s:ByteArray):zi1 s.data.toList=(s.toList == [98,114] || (s.toList == [104,114] || s.toList == [105,109,103])):=by rw[ByteArray.toList_eq];rfl
theorem zgc(s:ByteArray)(w:World) :
    Calls Tryz.prog 142 #[.string s] w fun e w'=>e=.returned (.bool (zi1 s.data.toList))/\w=w':=by
  have HR:=Lib.hid (zrf s)
  cases h1:s.toList == [98,114] with
  | true=>
    rw[h1]at HR
    go_enter Tryz.func142,Tryz.ntmps142
    go_wp2
    go_ret
    exact⟨zB (by rw[HR.out];rfl),rfl⟩
  | false=>
    cases h2:s.toList == [104,114] with
    | true=>
      rw[h1,h2]at HR
      go_enter Tryz.func142,Tryz.ntmps142
      go_wp2
      go_ret
      exact⟨zB (by rw[HR.out];rfl),rfl⟩
    | false=>
      rw[h1,h2]at HR
      go_enter Tryz.func142,Tryz.ntmps142
      go_wp2
      go_ret
      exact⟨zB (by rw[HR.out];rfl),rfl⟩
theorem zlM(s:ByteArray)(o:Int)(A:Option Addr)(c:Nat):LT.told ⟨s,A,(comp (List.replicate s.size (zaq o))).length,c,comp (List.replicate s.size (zaq o))⟩:=by
  have hl:(s.data.toList.map fun b=>(b,zaq o)).map (·.2)=List.replicate s.size (zaq o):=by
    rw[List.map_map,List.eq_replicate_iff]
    refine⟨by rw[List.length_map,Array.length_toList];rfl,fun x hx=>?_⟩
    obtain⟨b,_,rfl⟩:=List.mem_map.1 hx
    rfl
  have hi:InR (s.data.toList.map fun b=>(b,zaq o)):=by
    intro x hx
    rw[hl]at hx
    rw[(List.mem_replicate.1 hx).2]
    exact⟨zhI _,zhJ _⟩
  have hf:(zh (s.data.toList.map fun b=>(b,zaq o))).data.toList=s.data.toList:=by
    show(((s.data.toList.map fun b=>(b,zaq o)).map (·.1)).toArray).toList=_
    rw[List.map_map]
    show((s.data.toList.map fun b=>b).toArray).toList=_
    rw[List.map_id']
  have h:=zcJ hi
  rw[hf,hl]at h
  show comp (List.replicate s.size (zaq o))=comp ((chars s.data.toList (comp (List.replicate s.size (zaq o)))).map (·.2))
  rw[h,hl]
theorem zcL{W:World}{g:Nat}{t:TypeId}{cs:Array Value}{l:List Value}(h:Whole W g t cs)(hl:cs.toList=l):Lies W W.heap.size (some ⟨g,0,none⟩) l:=by
  intro j u hu
  refine⟨_,rfl,h.lt,?_⟩
  subst hl
  have h1:=h.at_ j
  rw[<-Array.getElem?_toList,hu]at h1
  have e:(⟨g,0,none⟩:Addr).add j=⟨g,j,none⟩:=by
    cases j with
    | zero=>rfl
    | succ j=>simp [Addr.add]
  rw[e];exact h1
end Go.Proofs.YtddgabjhligeeaaGreat.mk
