import Derived.Test.YtddgabjhligeeaaGreatJnAT
import Derived.Test.YtddgabjhligeeaaGreatJnM
set_option maxHeartbeats 4000000
set_option maxRecDepth 100000
namespace Go.Proofs.YtddgabjhligeeaaGreat.mk
open Go.RowKit
structure NK (g r:Nat) (L:Ch) (i m:Nat) (v4 v5:Value) (w V:World):Prop where
  src:SrcM V g L i m v4 v5
  sv:Sv g w V
  res:∃ x y,Whole V r 24 #[x,y]
  lt:g < r
  le:w.heap.size<=r
section
variable {g r : Nat} {L : Ch} {i m : Nat} {v4 v5 : Value} {w V V' : World}
theorem NK.next(h:NK g r L i m v4 v5 w V)(hb:Below V.heap.size V V'):NK g r L i m v4 v5 w V':=by
  obtain⟨x,y,hr⟩:=h.res
  exact⟨h.src.next hb,h.sv.trans (Moved.of_below hb),⟨x,y,hr.below hb hr.lt⟩,h.lt,h.le⟩
theorem NK.drew(h:NK g r L i m v4 v5 w V):NK g r L i m v4 v5 w V.drew:=h.next (Below.drew (Below.refl _ _))
theorem NK.step{i' m':Nat}(h:NK g r L i m v4 v5 w V)(hs:SrcM V' g L i' m' v4 v5)(hv:Sv g V V'):NK g r L i' m' v4 v5 w V':=by
  obtain⟨x,y,hr⟩:=h.res
  exact⟨hs,h.sv.trans hv,⟨x,y,Moved.whole hv hr (by have:=h.lt;omega)⟩,h.lt,h.le⟩
theorem NK.put(h:NK g r L i m v4 v5 w V)(u v:Value):NK g r L i m v4 v5 w ((V.setCell ⟨r,0,none⟩ u).setCell ⟨r,1,none⟩ v):=by
  obtain⟨x,y,hr⟩:=h.res
  exact⟨(h.src.far _ h.lt _).far _ h.lt _,(h.sv.setNew (p:=⟨r,0,none⟩) h.le _).setNew (p:=⟨r,1,none⟩) h.le _,⟨u,v,(hr.put 0 _).put 1 _⟩,h.lt,h.le⟩
theorem NK.at1(h:NK g r L i m v4 v5 w V):V.cell? ⟨g,1,none⟩=some (.int .i64 (i:Int))/\NK g r L i m v4 v5 w V:=by
  obtain⟨A,n,c,k,hW,_⟩:=h.src.cells
  exact⟨hW.at_ 1,h⟩
end
theorem zex{g:Nat}{L:Ch}{i:Nat}{v4 v5:Value}(n:Nat)(w:World)(h:SrcM w g L i i v4 v5)(hn:i+n<=L.length) :
    Calls Tryz.prog 113 #[.pointer (some ⟨g,0,none⟩),.int .i64 (n:Int)] w (zfj g L ((L.drop i).take n) (i+n) (i+n) v4 v5 w):=by
  have hlt:=h.lt
  have hlen:=h.len
  have hmin:min (i+n) L.length=i+n:=by omega
  have HMIN:=Lib.hid hmin
  have HTK:Hid ((L.take (i+n)).drop i=(L.drop i).take n):=by show _=_;rw[List.drop_take];congr 1;omega
  have HN:Hid (n<=268435456):=by show n<=_;omega
  have hw:IntKind.i64.wrap (((i+n:Nat):Int) - (n:Int))=(i:Int):=by rw[show((i+n:Nat):Int) - (n:Int)=(i:Int) by omega];exact IntWalk.i64_in _ (by omega)
  have HCUT:Hid (∀ V,SrcM V g L (i+n) i v4 v5->Calls Tryz.prog 151 #[.pointer (some ⟨g,0,none⟩),.int .i64 (i:Int),.int .i64 ((i+n:Nat):Int)] V (zfj g L ((L.take (i+n)).drop i) (i+n) i v4 v5 V)):=fun V hV=>zjU i (i+n) V hV (Nat.le_refl _) (Nat.le_add_right _ _) hn
  have H:=Lib.hid h
  clear h hmin hn hlen
  go_enter Tryz.func113,Tryz.ntmps113
  go_wp2_with fail
  generalize hw0:w.alloc (.cells #[.string ⟨#[]⟩,.slice none 0 0] 24)=w0
  have y0:Whole w0 w.heap.size 24 #[.string ⟨#[]⟩,.slice none 0 0]:=by rw[<-hw0];exact Whole.made w _ _
  have hb0:Below w.heap.size w w0:=by rw[<-hw0];exact(Below.refl _ _).alloc (Nat.le_refl _) _
  have HNK:Hid (NK g w.heap.size L i i v4 v5 w w0):=⟨H.out.next hb0,Moved.of_below hb0,⟨_,_,y0⟩,hlt,Nat.le_refl _⟩
  clear hw0 y0 hb0
  refine(zcL n w0 HNK.out.src HN.out).mono ?_
  rw[HMIN.out]
  rintro e w1 ⟨rfl,h1,hv1⟩
  have HK:Hid (NK g w.heap.size L (i+n) i v4 v5 w w1):=HNK.out.step h1 hv1
  clear h1 hv1
  generalize hz:((i+n:Nat):Int)=z at *
  go_wp2_with fail
  go_region_held3 (fun V=>V.cell? ⟨g,1,none⟩=some (.int .i64 z)/\NK g w.heap.size L (i+n) i v4 v5 w V)
    (first
      | exact hz ▸ HK.out.drew.at1
      | (go_split_ands;exact hz ▸ NK.at1 (by assumption))
      | exact hz ▸ hkC.at1
      | (go_split_ands;exact hz ▸ (NK.put (by assumption) _ _).at1))
    (first
      | (go_at_call 151;refine(HCUT.out _ ?_).mono ?_;(go_split_ands;exact NK.src (by assumption));rintro e w2 ⟨u,rfl,hu,hs2,hv2⟩;have hkC:NK g w.heap.size L (i+n) i v4 v5 w w2:=(by go_split_ands;exact NK.step (by assumption) hs2 hv2);have hu2:Hid (u.ch=(L.take (i+n)).drop i/\OwnL w2 (w.heap.size+1) u):=(by go_split_ands;exact⟨hu.out.1,hu.out.2.mono (by have hq:=NK.res (by assumption);obtain⟨x,y,hq⟩:=hq;exact hq.lt)⟩);obtain⟨x3,y3,hW3⟩:=hkC.res;have d0:=hW3.at_ 0;have d1:=hW3.at_ 1;have f0:=hW3.free 0;have f1:=hW3.free 1))
  all_goals
    have HKC:=Lib.hid hkC
    clear hkC hu
    go_wp2
    refine bodyPost_ret (v:=.agg #[.string u.s,.slice u.A u.n u.c]) ?_ rfl ?_
    . simp [results,Tryz.results113,go_sem,d0,d1]
    . refine zcy (Nat.le_refl _) hlt ⟨hu2.out.1.trans HTK.out,hu2.out.2⟩ (HKC.out.src.mono (Nat.le_add_right _ _)) HKC.out.sv
theorem zlZ(c:List UInt8)(l:Ch):Lib.indexAny (l.map (·.1)) c=if (zr (fun b=>c.contains b) l).length=l.length then -1 else ((zr (fun b=>c.contains b) l).length:Int):=by
  induction l with
  | nil=>rfl
  | cons x l ih=>
    rw[List.map_cons,Lib.indexAny]
    unfold zr at ih ⊢
    cases hc:c.contains x.1 with
    | true=>
      have e:(x::l).takeWhile (fun d=>!((fun b=>c.contains b) d.1))=[]:=List.takeWhile_cons_of_neg (by simp only[hc];decide)
      rw[if_pos rfl,e,if_neg (by simp)]
      rfl
    | false=>
      have e:(x::l).takeWhile (fun d=>!((fun b=>c.contains b) d.1))=x::l.takeWhile (fun d=>!((fun b=>c.contains b) d.1)):=List.takeWhile_cons_of_pos (by simp only[hc];decide)
      rw[if_neg (by decide),e,List.length_cons,List.length_cons]
      generalize (l.takeWhile fun d=>!((fun b=>c.contains b) d.1)).length=k at *
      by_cases h:k=l.length
      . rw[if_pos h]at ih
        rw[ih,if_pos (by decide),if_pos (by omega)]
      . rw[if_neg h]at ih
        rw[ih,if_neg (by rw[beq_iff_eq];omega),if_neg (by omega)]
        omega
theorem zi3(p:UInt8->Bool)(l:Ch):(zr p l).length<=l.length:=(List.takeWhile_sublist _).length_le
theorem zh5{g:Nat}{L:Ch}{i:Nat}{v4 v5:Value}(p:ByteArray)(w:World)(h:SrcM w g L i i v4 v5)(hp1:1<=p.size)(hp2:p.size<=16)(hpl:∀ (i:Nat) (h:i < p.size),(p[i]'h).toNat < 128) :
    Calls Tryz.prog 147 #[.pointer (some ⟨g,0,none⟩),.string p] w fun e w'=>∃ j,L.drop j=zH (fun b=>p.data.toList.contains b) (L.drop i)/\zfj g L (zr (fun b=>p.data.toList.contains b) (L.drop i)) j j v4 v5 w e w':=by
  have hlt:=h.lt
  have hlen:=h.len
  have hle:=h.le
  have H:=Lib.hid h
  have hq:=zi3 (fun b=>p.data.toList.contains b) (L.drop i)
  have HTU:=Lib.hid (ze6 (fun b=>p.data.toList.contains b) (L.drop i))
  have HDU:Hid (L.drop (i+(zr (fun b=>p.data.toList.contains b) (L.drop i)).length)=zH (fun b=>p.data.toList.contains b) (L.drop i)):=by show _=_;rw[<-List.drop_drop,ze7]
  have HIX:Hid (Lib.indexAny (zi (L.drop i)).data.toList p.data.toList=_):=(congrArg (fun l=>Lib.indexAny l p.data.toList) (zX (L.drop i))).trans (zlZ p.data.toList (L.drop i))
  have hts:(zi (L.drop i)).size=(L.drop i).length:=zG _
  rw[List.length_drop]at hq hts
  have hld:(L.drop i).length=L.length - i:=List.length_drop
  have HIA:Hid (∀ V,Calls Tryz.prog 170 #[.string (zi (L.drop i)),.string p] V fun e w'=>e=.returned (.int .i64 (Lib.indexAny (zi (L.drop i)).data.toList p.data.toList))/\Below V.heap.size V w'):=fun V=>Tryz.strings_IndexAny_low _ _ V (by omega) hp1 hp2 hpl
  generalize zr (fun b=>p.data.toList.contains b) (L.drop i)=U at *
  generalize zH (fun b=>p.data.toList.contains b) (L.drop i)=R at *
  have hiq:i+U.length<=L.length:=by omega
  have hRT:Hid (∀ V m,SrcM V g L i m v4 v5->Calls Tryz.prog 68 #[.pointer (some ⟨g,0,none⟩)] V fun e w'=>e=.returned (.string (zi (L.drop i)))/\∃ n,w'=V.drewN n):=fun V m hV=>zb2 V hV
  have HNX:Hid (∀ V,SrcM V g L i i v4 v5->Calls Tryz.prog 113 #[.pointer (some ⟨g,0,none⟩),.int .i64 (U.length:Int)] V (zfj g L U (i+U.length) (i+U.length) v4 v5 V)):=fun V hV=>by
    have:=zex U.length V hV hiq
    rw[HTU.out]at this
    exact this
  generalize Lib.indexAny (zi (L.drop i)).data.toList p.data.toList=x at *
  have hx:(x=-1/\U.length=(zi (L.drop i)).size)\/x=(U.length:Int):=by
    have:=HIX.out
    by_cases hc:U.length=(L.drop i).length
    . rw[if_pos hc]at this
      exact Or.inl ⟨this,by omega⟩
    . rw[if_neg hc]at this
      exact Or.inr this
  generalize zi (L.drop i)=t at *
  generalize U.length=q at *
  clear h hq HTU HIX hts hld hiq hp1 hp2 hpl
  go_enter Tryz.func147,Tryz.ntmps147
  go_wp2_with fail
  generalize hw0:w.alloc (.cells #[.string ⟨#[]⟩,.slice none 0 0] 24)=w0
  have y0:Whole w0 w.heap.size 24 #[.string ⟨#[]⟩,.slice none 0 0]:=by rw[<-hw0];exact Whole.made w _ _
  have hb0:Below w.heap.size w w0:=by rw[<-hw0];exact(Below.refl _ _).alloc (Nat.le_refl _) _
  have HNK:Hid (NK g w.heap.size L i i v4 v5 w w0):=⟨H.out.next hb0,Moved.of_below hb0,⟨_,_,y0⟩,hlt,Nat.le_refl _⟩
  clear hw0 y0 hb0
  refine(hRT.out w0 i HNK.out.src).mono ?_
  rintro e w1 ⟨rfl,n1,rfl⟩
  have HK1:Hid (NK g w.heap.size L i i v4 v5 w (w0.drewN n1)):=HNK.out.next ((Below.refl _ _).drewN n1)
  go_wp2_with fail
  refine(HIA.out _).mono ?_
  rintro e w2 ⟨rfl,hb2⟩
  have HK2:Hid (NK g w.heap.size L i i v4 v5 w w2):=HK1.out.next hb2
  clear hb2
  rcases hx with ⟨rfl,hx⟩ | rfl
  . have hx1:(t.size:Int)=(q:Int):=by omega
    clear hx
    go_wp2_with fail
    refine(hRT.out w2 i HK2.out.src).mono ?_
    rintro e w3 ⟨rfl,n3,rfl⟩
    have HK3:Hid (NK g w.heap.size L i i v4 v5 w (w2.drewN n3)):=HK2.out.next ((Below.refl _ _).drewN n3)
    go_wp2_with fail
    refine(HNX.out _ HK3.out.src).mono ?_
    rintro e w4 ⟨u,rfl,hu,hs4,hv4⟩
    have HK4:Hid (NK g w.heap.size L (i+q) (i+q) v4 v5 w w4):=HK3.out.step hs4 hv4
    have HU:Hid (u.ch=U/\OwnL w4 (w.heap.size+1) u):=⟨hu.out.1,hu.out.2.mono (by obtain⟨x,y,hr⟩:=HK3.out.res;exact hr.lt)⟩
    obtain⟨x3,y3,hW3⟩:=HK4.out.res
    have d0:=hW3.at_ 0
    have d1:=hW3.at_ 1
    have f0:=hW3.free 0
    have f1:=hW3.free 1
    clear hs4 hv4 hu hW3
    go_wp2
    refine bodyPost_ret (v:=.agg #[.string u.s,.slice u.A u.n u.c]) ?_ rfl ?_
    . simp [results,Tryz.results147,go_sem,d0,d1]
    . exact⟨i+q,HDU.out,zcy (Nat.le_refl _) hlt HU.out HK4.out.src HK4.out.sv⟩
  . have hx0:¬ (q:Int) < 0:=by omega
    go_wp2_with fail
    refine(HNX.out _ HK2.out.src).mono ?_
    rintro e w4 ⟨u,rfl,hu,hs4,hv4⟩
    have HK4:Hid (NK g w.heap.size L (i+q) (i+q) v4 v5 w w4):=HK2.out.step hs4 hv4
    have HU:Hid (u.ch=U/\OwnL w4 (w.heap.size+1) u):=⟨hu.out.1,hu.out.2.mono (by obtain⟨x,y,hr⟩:=HK2.out.res;exact hr.lt)⟩
    obtain⟨x3,y3,hW3⟩:=HK4.out.res
    have d0:=hW3.at_ 0
    have d1:=hW3.at_ 1
    have f0:=hW3.free 0
    have f1:=hW3.free 1
    clear hs4 hv4 hu hW3
    go_wp2
    refine bodyPost_ret (v:=.agg #[.string u.s,.slice u.A u.n u.c]) ?_ rfl ?_
    . simp [results,Tryz.results147,go_sem,d0,d1]
    . exact⟨i+q,HDU.out,zcy (Nat.le_refl _) hlt HU.out HK4.out.src HK4.out.sv⟩
def Src(w:World)(g:Nat)(L r:Ch)(v4 v5:Value):Prop:=∃ i,L.drop i=r/\SrcM w g L i i v4 v5
def zhb(g:Nat)(L l r:Ch)(v4 v5:Value)(w:World)(e:Ending)(w':World):Prop:=
  ∃ u:LT,e=.returned (.agg #[.string u.s,.slice u.A u.n u.c])/\Hid (u.ch=l/\OwnL w' w.heap.size u)/\Src w' g L r v4 v5/\Sv g w w'
def Goes(g:Nat)(L r:Ch)(v4 v5:Value)(w:World)(e:Ending)(w':World):Prop:=e=.returned (.tuple #[])/\Src w' g L r v4 v5/\Sv g w w'
section
variable {g : Nat} {L r : Ch} {v4 v5 : Value} {w w' : World}
theorem Src.lt(h:Src w g L r v4 v5):g < w.heap.size:=by obtain⟨i,_,h⟩:=h;exact h.lt
theorem Src.next(h:Src w g L r v4 v5)(hb:Below w.heap.size w w'):Src w' g L r v4 v5:=by obtain⟨i,e,h⟩:=h;exact⟨i,e,h.next hb⟩
theorem Src.drewN(h:Src w g L r v4 v5)(n:Nat):Src (w.drewN n) g L r v4 v5:=h.next ((Below.refl _ _).drewN n)
theorem Src.drew(h:Src w g L r v4 v5):Src w.drew g L r v4 v5:=h.next (Below.drew (Below.refl _ _))
theorem Src.far(h:Src w g L r v4 v5)(p:Addr)(hp:g < p.block)(u:Value):Src (w.setCell p u) g L r v4 v5:=by obtain⟨i,e,h⟩:=h;exact⟨i,e,h.far p hp u⟩
theorem Src.inr(h:Src w g L r v4 v5):InR r:=by obtain⟨i,rfl,h⟩:=h;exact h.inr.drop _
theorem Src.len(h:Src w g L r v4 v5):r.length<=L.length/\L.length<=268435456:=by
  obtain⟨i,rfl,h⟩:=h
  have:=h.len
  rw[List.length_drop]
  omega
theorem Src.cells(h:Src w g L r v4 v5):∃ A n c k,Whole w g 64 #[.string (zi L),.int .i64 ((L.length - r.length:Nat):Int),.slice A n c,.int .i64 k,v4,v5]:=by
  obtain⟨i,rfl,h⟩:=h
  have hle:=h.le
  obtain⟨A,n,c,k,hW,_⟩:=h.cells
  rw[List.length_drop,show L.length - (L.length - i)=i by omega]
  exact⟨A,n,c,_,hW⟩
theorem zhc(h:Src w g L r v4 v5) :
    Calls Tryz.prog 34 #[.pointer (some ⟨g,0,none⟩)] w fun e w'=>e=.returned (.bool (!r.isEmpty))/\∃ n,w'=w.drewN n:=by
  obtain⟨i,rfl,h⟩:=h
  have:=zh2 w h
  have e:decide (i < L.length)=!(L.drop i).isEmpty:=by
    rw[Bool.eq_iff_iff,decide_eq_true_eq]
    cases hd:L.drop i with
    | nil=>simp;simpa using hd
    | cons c m=>simp;exact(za2 hd).2.1
  rw[e]at this
  exact this
theorem zfm(h:Src w g L r v4 v5) :
    Calls Tryz.prog 68 #[.pointer (some ⟨g,0,none⟩)] w fun e w'=>e=.returned (.string (zi r))/\∃ n,w'=w.drewN n:=by
  obtain⟨i,rfl,h⟩:=h
  exact zb2 w h
theorem zK(p:ByteArray)(h:Src w g L r v4 v5) :
    Calls Tryz.prog 65 #[.pointer (some ⟨g,0,none⟩),.string p] w fun e w'=>e=.returned (.bool (isA p.data.toList r))/\∃ n,w'=w.drewN n:=by
  obtain⟨i,rfl,h⟩:=h
  exact zg9 p w h
theorem zcD(n:Nat)(h:Src w g L r v4 v5)(hn:n<=268435456) :
    Calls Tryz.prog 66 #[.pointer (some ⟨g,0,none⟩),.int .i64 (n:Int)] w (Goes g L (r.drop n) v4 v5 w):=by
  obtain⟨i,rfl,h⟩:=h
  refine(zcL n w h hn).mono ?_
  rintro e w' ⟨rfl,hs,hv⟩
  refine⟨rfl,⟨_,?_,hs.mono (by have:=h.le;omega)⟩,hv⟩
  rw[List.drop_drop]
  rcases Nat.le_total (i+n) L.length with hc | hc
  . rw[Nat.min_eq_left hc]
  . rw[Nat.min_eq_right hc,List.drop_of_length_le (Nat.le_refl _),List.drop_of_length_le hc]
theorem zhd(p:ByteArray)(f:UInt8->Bool)(h:Src w g L r v4 v5)(hp:p.size<=4294967296)(hf:(fun b=>p.data.toList.contains b)=f) :
    Calls Tryz.prog 145 #[.pointer (some ⟨g,0,none⟩),.string p] w (Goes g L (zo f r) v4 v5 w):=by
  subst hf
  obtain⟨i,rfl,h⟩:=h
  refine(zh3 p w h hp).mono ?_
  rintro e w' ⟨rfl,j,hij,hj,hs,hv⟩
  exact⟨rfl,⟨j,hj,hs.mono hij⟩,hv⟩
theorem zi4(n:Nat)(h:Src w g L r v4 v5)(hn:n<=r.length) :
    Calls Tryz.prog 113 #[.pointer (some ⟨g,0,none⟩),.int .i64 (n:Int)] w (zhb g L (r.take n) (r.drop n) v4 v5 w):=by
  obtain⟨i,rfl,h⟩:=h
  have hle:=h.le
  rw[List.length_drop]at hn
  refine(zex n w h (by omega)).mono ?_
  rintro e w' ⟨u,rfl,hu,hs,hv⟩
  exact⟨u,rfl,hu,⟨_,by rw[List.drop_drop],hs⟩,hv⟩
theorem zhe(p:ByteArray)(f:UInt8->Bool)(h:Src w g L r v4 v5)(hp1:1<=p.size)(hp2:p.size<=16)(hpl:∀ (i:Nat) (h:i < p.size),(p[i]'h).toNat < 128)(hf:(fun b=>p.data.toList.contains b)=f) :
    Calls Tryz.prog 147 #[.pointer (some ⟨g,0,none⟩),.string p] w (zhb g L (zr f r) (zH f r) v4 v5 w):=by
  subst hf
  obtain⟨i,rfl,h⟩:=h
  refine(zh5 p w h hp1 hp2 hpl).mono ?_
  rintro e w' ⟨j,hj,u,rfl,hu,hs,hv⟩
  exact⟨u,rfl,hu,⟨j,hj,hs⟩,hv⟩
end
theorem zey{p:ByteArray}(h:p.data.toList.all (fun b=>decide (b.toNat < 128))=true):∀ (i:Nat) (h:i < p.size),(p[i]'h).toNat < 128:=by
  intro i hi
  have hm:p[i]'hi∈p.data.toList:=by
    have e:p.data.toList[i]?=some (p[i]'hi):=Lib.data_getElem? p i hi
    exact List.mem_of_getElem? e
  exact of_decide_eq_true (List.all_eq_true.1 h _ hm)
theorem zl0:(fun b=>(ByteArray.mk #[9,10,12,32]).data.toList.contains b)=spcB:=rfl
theorem zi5:(fun b=>(ByteArray.mk #[9,10,12,32,47]).data.toList.contains b)=spsB:=rfl
theorem zo5:(fun b=>(ByteArray.mk #[47]).data.toList.contains b)=(· == 47):=by
  funext b
  show [47].contains b=_
  rw[Bool.eq_iff_iff];simp
theorem zpU:(fun b=>(ByteArray.mk #[9,10,12,32,47,62]).data.toList.contains b)=endT:=rfl
theorem zpV:(fun b=>(ByteArray.mk #[9,10,12,32,47,62,61]).data.toList.contains b)=endN:=rfl
theorem zpW:(fun b=>(ByteArray.mk #[9,10,12,32,62]).data.toList.contains b)=endV:=rfl
theorem zo6:(fun b=>(ByteArray.mk #[34]).data.toList.contains b)=(· == 34):=by
  funext b
  show [34].contains b=_
  rw[Bool.eq_iff_iff];simp
theorem zo7:(fun b=>(ByteArray.mk #[39]).data.toList.contains b)=(· == 39):=by
  funext b
  show [39].contains b=_
  rw[Bool.eq_iff_iff];simp
structure RK (g b:Nat) (L r:Ch) (v4 v5:Value) (w V:World):Prop where
  src:Src V g L r v4 v5
  sv:Sv g w V
  res:∃ x y,Whole V b 24 #[x,y]
  lt:g < b
  le:w.heap.size<=b
section
variable {g b : Nat} {L r r' : Ch} {v4 v5 : Value} {w V V' : World}
theorem RK.next(h:RK g b L r v4 v5 w V)(hb:Below V.heap.size V V'):RK g b L r v4 v5 w V':=by
  obtain⟨x,y,hr⟩:=h.res
  exact⟨h.src.next hb,h.sv.trans (Moved.of_below hb),⟨x,y,hr.below hb hr.lt⟩,h.lt,h.le⟩
theorem RK.drewN(h:RK g b L r v4 v5 w V)(n:Nat):RK g b L r v4 v5 w (V.drewN n):=h.next ((Below.refl _ _).drewN n)
theorem RK.step(h:RK g b L r v4 v5 w V)(hs:Src V' g L r' v4 v5)(hv:Sv g V V'):RK g b L r' v4 v5 w V':=by
  obtain⟨x,y,hr⟩:=h.res
  exact⟨hs,h.sv.trans hv,⟨x,y,Moved.whole hv hr (by have:=h.lt;omega)⟩,h.lt,h.le⟩
theorem RK.put(h:RK g b L r v4 v5 w V)(u v:Value):RK g b L r v4 v5 w ((V.setCell ⟨b,0,none⟩ u).setCell ⟨b,1,none⟩ v):=by
  obtain⟨x,y,hr⟩:=h.res
  exact⟨(h.src.far _ h.lt _).far _ h.lt _,(h.sv.setNew (p:=⟨b,0,none⟩) h.le _).setNew (p:=⟨b,1,none⟩) h.le _,⟨u,v,(hr.put 0 _).put 1 _⟩,h.lt,h.le⟩
theorem RK.lt2(h:RK g b L r v4 v5 w V):b < V.heap.size:=by obtain⟨x,y,hr⟩:=h.res;exact hr.lt
theorem zdp{l:Ch}{u:LT}(h:u.ch=l/\OwnL V (b+1) u)(hs:RK g b L r v4 v5 w V) :
    zhb g L l r v4 v5 w (.returned (.agg #[.string u.s,.slice u.A u.n u.c])) ((V.setCell ⟨b,0,none⟩ (.string u.s)).setCell ⟨b,1,none⟩ (.slice u.A u.n u.c)):=by
  have hp:=hs.put (.string u.s) (.slice u.A u.n u.c)
  refine⟨u,rfl,⟨h.1,h.2.1,h.2.2.1,h.2.2.2.1,?_⟩,hp.src,hp.sv⟩
  have:=hs.le
  exact zI (zS (zS h.2.2.2.2 _ (fun e=>by have:=(h.2.2.2.2.lt _ e).1;simp at this;omega) _) _ (fun e=>by have:=(h.2.2.2.2.lt _ e).1;simp at this;omega) _) (by omega)
end
theorem OwnL.sv{w w':World}{base g:Nat}{u:LT}(h:OwnL w base u)(hv:Sv g w w')(hg:g < base):OwnL w' base u:=
  h.keep fun b _ hb hc=>hv.block b (Array.getElem?_eq_some_iff.1 hc).1 (by omega)
def zpX(g:Nat)(L r:Ch)(v4 v5:Value)(w:World)(s8:Value)(wr:World):Prop:=
  ∃ k:Nat,s8=.int .i64 (k:Int)/\(k=0\/(k=1/\isA [34] r=false)\/(k=2/\isA [34] r=false/\isA [39] r=false))/\RK g w.heap.size L r v4 v5 w wr/\Whole wr (w.heap.size+1) 9 #[.string ⟨#[34]⟩,.string ⟨#[39]⟩]
theorem zfY{g:Nat}{L r:Ch}{v4 v5:Value}(w:World)(h:Src w g L r v4 v5) :
    Calls Tryz.prog 186 #[.pointer (some ⟨g,0,none⟩)] w (zhb g L (qVal r).1 (qVal r).2 v4 v5 w):=by
  have hlt:=h.lt
  have H:=Lib.hid h
  have HA34:Hid (∀ V,Src V g L r v4 v5->Calls Tryz.prog 65 #[.pointer (some ⟨g,0,none⟩),.string ⟨#[34]⟩] V fun e w'=>e=.returned (.bool (isA [34] r))/\∃ n,w'=V.drewN n):=fun V hV=>zK ⟨#[34]⟩ hV
  have HA39:Hid (∀ V,Src V g L r v4 v5->Calls Tryz.prog 65 #[.pointer (some ⟨g,0,none⟩),.string ⟨#[39]⟩] V fun e w'=>e=.returned (.bool (isA [39] r))/\∃ n,w'=V.drewN n):=fun V hV=>zK ⟨#[39]⟩ hV
  clear h
  go_enter Tryz.func186,Tryz.ntmps186
  go_wp2_with fail
  generalize hw1:(w.alloc (.cells #[.string ⟨#[]⟩,.slice none 0 0] 24)).alloc (.cells #[.string ⟨#[34]⟩,.string ⟨#[39]⟩] 9)=w1
  have y0:Whole w1 w.heap.size 24 #[.string ⟨#[]⟩,.slice none 0 0]:=by rw[<-hw1];exact(Whole.made w _ _).alloc _
  have yl:Whole w1 (w.heap.size+1) 9 #[.string ⟨#[34]⟩,.string ⟨#[39]⟩]:=by
    rw[<-hw1]
    have h:=Whole.made (w.alloc (.cells #[.string ⟨#[]⟩,.slice none 0 0] 24)) 9 #[.string ⟨#[34]⟩,.string ⟨#[39]⟩]
    simp only[World.size_alloc]at h
    exact h
  have hb1:Below w.heap.size w w1:=by rw[<-hw1];exact((Below.refl _ _).alloc (Nat.le_refl _) _).alloc (by simp) _
  have HK1:Hid (RK g w.heap.size L r v4 v5 w w1):=⟨H.out.next hb1,Moved.of_below hb1,⟨_,_,y0⟩,hlt,Nat.le_refl _⟩
  have YL:=Lib.hid yl
  clear hw1 y0 hb1 yl
  go_loopw [8] (zpX g L r v4 v5 w) (fun s8 _=>2 - (intOf s8).toNat)
  case atStart=>exact⟨0,rfl,Or.inl rfl,HK1.out,YL.out⟩
  case round=>
    obtain⟨k,rfl,hk,hK,hW⟩:=hrel
    have HK:=Lib.hid hK
    have HLW:=Lib.hid hW
    have l0:wr.cell? ⟨w.heap.size+1,0,none⟩=some (.string ⟨#[34]⟩):=hW.at_ 0
    have l1:wr.cell? ⟨w.heap.size+1,1,none⟩=some (.string ⟨#[39]⟩):=hW.at_ 1
    clear hK hW
    rcases hk with rfl | ⟨rfl,h34⟩ | ⟨rfl,h34,h39⟩
    . skip
      cases hq:isA [34] r with
      | true=>
        have HV:Hid (qVal r=(zr (· == 34) r.tail,(zH (· == 34) r.tail).tail)):=by show _=_;unfold qVal;rw[if_pos hq]
        go_wp2_with fail
        refine(HA34.out wr HK.out.src).mono ?_
        rintro e w2 ⟨rfl,n2,rfl⟩
        have HK2:=Lib.hid (HK.out.drewN n2)
        rw[hq]
        clear hq
        go_wp2_with fail
        refine(zcD 1 HK2.out.src (by omega)).mono ?_
        rw[List.drop_one]
        rintro e w3 ⟨rfl,hs3,hv3⟩
        have HK3:=Lib.hid (HK2.out.step hs3 hv3)
        clear hs3 hv3
        go_wp2_with fail
        refine(zhe ⟨#[34]⟩ (· == 34) HK3.out.src (by decide) (by decide) (zey (by decide)) zo6).mono ?_
        rintro e w4 ⟨u,rfl,hu,hs4,hv4⟩
        have HK4:=Lib.hid (HK3.out.step hs4 hv4)
        have HU:Hid (u.ch=zr (· == 34) r.tail/\OwnL w4 (w.heap.size+1) u):=⟨hu.out.1,hu.out.2.mono HK3.out.lt2⟩
        clear hs4 hv4 hu
        generalize hw5:w4.alloc (.cells #[.string u.s,.slice u.A u.n u.c] 24)=w5
        have y5:Hid (Whole w5 w4.heap.size 24 #[.string u.s,.slice u.A u.n u.c]):=by rw[<-hw5];exact Whole.made _ _ _
        have hb5:Below w4.heap.size w4 w5:=by rw[<-hw5];exact(Below.refl _ _).alloc (Nat.le_refl _) _
        have HK5:=Lib.hid (HK4.out.next hb5)
        have HU5:Hid (u.ch=zr (· == 34) r.tail/\OwnL w5 (w.heap.size+1) u):=⟨HU.out.1,HU.out.2.below hb5⟩
        have hz4:=HK4.out.lt2
        clear hb5
        go_wp2_with fail
        refine(zcD 1 HK5.out.src (by omega)).mono ?_
        rw[List.drop_one]
        rintro e w6 ⟨rfl,hs6,hv6⟩
        have HK6:=Lib.hid (HK5.out.step hs6 hv6)
        have HU6:Hid (u.ch=zr (· == 34) r.tail/\OwnL w6 (w.heap.size+1) u):=⟨HU5.out.1,HU5.out.2.sv hv6 (by omega)⟩
        have y6:=hv6.whole y5.out (by have:=HK4.out.lt;omega)
        have p0:w6.cell? ⟨w4.heap.size,0,none⟩=some (.string u.s):=y6.at_ 0
        have p1:w6.cell? ⟨w4.heap.size,1,none⟩=some (.slice u.A u.n u.c):=y6.at_ 1
        obtain⟨x3,y3,hW3⟩:=HK6.out.res
        have d0:=hW3.at_ 0
        have d1:=hW3.at_ 1
        have f0:=hW3.free 0
        have f1:=hW3.free 1
        clear hs6 hv6 y6 hW3 hw5
        go_wp2
        refine bodyPost_ret (v:=.agg #[.string u.s,.slice u.A u.n u.c]) ?_ rfl ?_
        . simp [results,Tryz.results186,go_sem,d0,d1]
        . rw[HV.out]
          exact zdp HU6.out HK6.out
      | false=>
        go_wp2_with fail
        refine(HA34.out wr HK.out.src).mono ?_
        rintro e w2 ⟨rfl,n2,rfl⟩
        have HK2:=Lib.hid (HK.out.drewN n2)
        have HHQ:=Lib.hid hq
        rw[hq]
        clear hq
        go_wp2_with fail
        go_roundw
        case rel=>exact⟨1,rfl,Or.inr (Or.inl ⟨rfl,HHQ.out⟩),HK2.out,HLW.out⟩
        case measure=>simp [intOf]
    . skip
      cases hq:isA [39] r with
      | true=>
        have HV:Hid (qVal r=(zr (· == 39) r.tail,(zH (· == 39) r.tail).tail)):=by show _=_;unfold qVal;rw[if_neg (by rw[h34];decide),if_pos hq]
        go_wp2_with fail
        refine(HA39.out wr HK.out.src).mono ?_
        rintro e w2 ⟨rfl,n2,rfl⟩
        have HK2:=Lib.hid (HK.out.drewN n2)
        rw[hq]
        clear hq
        go_wp2_with fail
        refine(zcD 1 HK2.out.src (by omega)).mono ?_
        rw[List.drop_one]
        rintro e w3 ⟨rfl,hs3,hv3⟩
        have HK3:=Lib.hid (HK2.out.step hs3 hv3)
        clear hs3 hv3
        go_wp2_with fail
        refine(zhe ⟨#[39]⟩ (· == 39) HK3.out.src (by decide) (by decide) (zey (by decide)) zo7).mono ?_
        rintro e w4 ⟨u,rfl,hu,hs4,hv4⟩
        have HK4:=Lib.hid (HK3.out.step hs4 hv4)
        have HU:Hid (u.ch=zr (· == 39) r.tail/\OwnL w4 (w.heap.size+1) u):=⟨hu.out.1,hu.out.2.mono HK3.out.lt2⟩
        clear hs4 hv4 hu
        generalize hw5:w4.alloc (.cells #[.string u.s,.slice u.A u.n u.c] 24)=w5
        have y5:Hid (Whole w5 w4.heap.size 24 #[.string u.s,.slice u.A u.n u.c]):=by rw[<-hw5];exact Whole.made _ _ _
        have hb5:Below w4.heap.size w4 w5:=by rw[<-hw5];exact(Below.refl _ _).alloc (Nat.le_refl _) _
        have HK5:=Lib.hid (HK4.out.next hb5)
        have HU5:Hid (u.ch=zr (· == 39) r.tail/\OwnL w5 (w.heap.size+1) u):=⟨HU.out.1,HU.out.2.below hb5⟩
        have hz4:=HK4.out.lt2
        clear hb5
        go_wp2_with fail
        refine(zcD 1 HK5.out.src (by omega)).mono ?_
        rw[List.drop_one]
        rintro e w6 ⟨rfl,hs6,hv6⟩
        have HK6:=Lib.hid (HK5.out.step hs6 hv6)
        have HU6:Hid (u.ch=zr (· == 39) r.tail/\OwnL w6 (w.heap.size+1) u):=⟨HU5.out.1,HU5.out.2.sv hv6 (by omega)⟩
        have y6:=hv6.whole y5.out (by have:=HK4.out.lt;omega)
        have p0:w6.cell? ⟨w4.heap.size,0,none⟩=some (.string u.s):=y6.at_ 0
        have p1:w6.cell? ⟨w4.heap.size,1,none⟩=some (.slice u.A u.n u.c):=y6.at_ 1
        obtain⟨x3,y3,hW3⟩:=HK6.out.res
        have d0:=hW3.at_ 0
        have d1:=hW3.at_ 1
        have f0:=hW3.free 0
        have f1:=hW3.free 1
        clear hs6 hv6 y6 hW3 hw5
        go_wp2
        refine bodyPost_ret (v:=.agg #[.string u.s,.slice u.A u.n u.c]) ?_ rfl ?_
        . simp [results,Tryz.results186,go_sem,d0,d1]
        . rw[HV.out]
          exact zdp HU6.out HK6.out
      | false=>
        go_wp2_with fail
        refine(HA39.out wr HK.out.src).mono ?_
        rintro e w2 ⟨rfl,n2,rfl⟩
        have HK2:=Lib.hid (HK.out.drewN n2)
        have HHQ:=Lib.hid hq
        rw[hq]
        clear hq
        go_wp2_with fail
        go_roundw
        case rel=>exact⟨2,rfl,Or.inr (Or.inr ⟨rfl,h34,HHQ.out⟩),HK2.out,HLW.out⟩
        case measure=>simp [intOf]
    . have HV:Hid (qVal r=(zr endV r,zH endV r)):=by show _=_;unfold qVal;rw[if_neg (by rw[h34];decide),if_neg (by rw[h39];decide)]
      clear h34 h39
      go_wp2_with fail
      refine(zhe ⟨#[9,10,12,32,62]⟩ endV HK.out.src (by decide) (by decide) (zey (by decide)) zpW).mono ?_
      rintro e w4 ⟨u,rfl,hu,hs4,hv4⟩
      have HK4:=Lib.hid (HK.out.step hs4 hv4)
      have HU:Hid (u.ch=zr endV r/\OwnL w4 (w.heap.size+1) u):=⟨hu.out.1,hu.out.2.mono HK.out.lt2⟩
      obtain⟨x3,y3,hW3⟩:=HK4.out.res
      have d0:=hW3.at_ 0
      have d1:=hW3.at_ 1
      have f0:=hW3.free 0
      have f1:=hW3.free 1
      clear hs4 hv4 hu hW3
      go_wp2
      refine bodyPost_ret (v:=.agg #[.string u.s,.slice u.A u.n u.c]) ?_ rfl ?_
      . simp [results,Tryz.results186,go_sem,d0,d1]
      . rw[HV.out]
        exact zdp HU.out HK4.out
theorem zhf(b:UInt8)(w:World) :
    Calls Tryz.prog 107 #[.int .u8 b.toNat] w fun e w'=>e=.returned (.bool (letB b))/\w'=w:=by
  have hb:=b.toNat_lt
  have HL:Hid (letB b=((decide (97<=b.toNat) && decide (b.toNat<=122)) || (decide (65<=b.toNat) && decide (b.toNat<=90)))):=rfl
  generalize b.toNat=n at *
  by_cases h1:97<=n<;>by_cases h2:n<=122<;>by_cases h3:65<=n<;>by_cases h4:n<=90
  all_goals first | (exfalso;omega) | skip
  all_goals
    have HR:=Lib.hid HL.out
    simp only[h1,h2,h3,h4,decide_true,decide_false,Bool.and_true,Bool.and_false,Bool.or_true,Bool.or_false,Bool.and_self,Bool.or_self]at HR
    have e1:((97:Int)<=(n:Int))=(97<=n):=by simp only[eq_iff_iff];omega
    have e2:((n:Int)<=122)=(n<=122):=by simp only[eq_iff_iff];omega
    have e3:((65:Int)<=(n:Int))=(65<=n):=by simp only[eq_iff_iff];omega
    have e4:((n:Int)<=90)=(n<=90):=by simp only[eq_iff_iff];omega
    go_enter Tryz.func107,Tryz.ntmps107
    go_wp2
    go_ret
    first | exact⟨za3 (by rw[HR.out]),rfl⟩ | exact⟨za3 (by rw[HR.out];simp [*]),rfl⟩
theorem znF(m:Ch):(⟨(Lib.trimPrefix (zi m).data.toList (ByteArray.mk #[47]).data.toList).toArray⟩:ByteArray)=zi (if isA [47] m then m.tail else m):=by
  rw[zX]
  cases m with
  | nil=>rfl
  | cons c m=>
    rw[zah]
    by_cases h:c.1=47
    . rw[if_pos (beq_iff_eq.2 h)]
      unfold Lib.trimPrefix Lib.hasPrefix
      rw[if_pos (by show([47]:List UInt8).isPrefixOf (c.1::_)=true;rw[h];rfl)]
      rfl
    . rw[if_neg (by simpa using h)]
      unfold Lib.trimPrefix Lib.hasPrefix
      rw[if_neg (by show ¬ ([47]:List UInt8).isPrefixOf (c.1::_)=true;simp [List.isPrefixOf];exact fun e=>h e.symm)]
      rfl
theorem za8{g:Nat}{L r:Ch}{v4 v5:Value}(w:World)(h:Src w g L r v4 v5) :
    Calls Tryz.prog 63 #[.pointer (some ⟨g,0,none⟩)] w fun e w'=>e=.returned (.bool (zaf r))/\∃ n,w'=w.drewN n:=by
  have HR:=Lib.hid (zfm h)
  have hA:((zi r).data.toList.take (ByteArray.mk #[60]).size == (ByteArray.mk #[60]).data.toList)=isA [60] r:=by rw[zX];rfl
  have HT:=fun(m:Ch) (V:World)=>Lib.hid ((znF m) ▸ Tryz.strings_TrimPrefix (zi m) ⟨#[47]⟩ V)
  cases hq:isA [60] r with
  | false=>
    have HV:Hid (zaf r=false):=by show _=_;unfold zaf;rw[hq];rfl
    have HC:=fun V=>Lib.hid (zkl (zi r) ⟨#[60]⟩ (hA.trans hq) V)
    have HT2:=fun V=>Lib.hid (Tryz.strings_TrimPrefix (zi r) ⟨#[47]⟩ V)
    generalize zi r=t at *
    clear hA hq h HT
    go_enter Tryz.func63,Tryz.ntmps63
    go_wp2_with fail
    refine HR.out.mono ?_
    rintro e w1 ⟨rfl,n1,rfl⟩
    go_wp2_with fail
    refine(HC _).out.mono ?_
    rintro e w2 ⟨rfl,hw2⟩
    subst hw2
    go_wp2_with fail
    refine(HT2 _).out.mono ?_
    rintro e w3 ⟨rfl,hw3⟩
    rw[hw3]
    go_wp2_with fail
    go_ret
    exact⟨by rw[HV.out];rfl,_,rfl⟩
  | true=>
    have HC:=fun V=>Lib.hid (zhw (zi r) ⟨#[60]⟩ (hA.trans hq) V)
    rw[show(ByteArray.mk #[60]).size=1 from rfl,zcZ r 1]at HC
    have hV:zaf r=(match (if isA [47] (r.drop 1) then (r.drop 1).tail else r.drop 1)with | []=>false | c::_=>letB c.1):=by
      unfold zaf
      rw[hq,Bool.true_and,List.drop_one]
      rfl
    have HTT:=fun V=>HT (r.drop 1) V
    generalize (if isA [47] (r.drop 1) then (r.drop 1).tail else r.drop 1)=q at *
    generalize zi r=t at *
    generalize zi (r.drop 1)=t1 at *
    clear hA hq h HT
    cases q with
    | nil=>
      have HV:=Lib.hid hV
      have he:(zi []).toList.isEmpty=true:=by rw[ByteArray.toList_eq,zX];rfl
      have he2:((zi []).toList == [])=true:=by rw[ByteArray.toList_eq,zX];rfl
      generalize zi []=t2 at *
      clear hV
      go_enter Tryz.func63,Tryz.ntmps63
      go_wp2_with fail
      refine HR.out.mono ?_
      rintro e w1 ⟨rfl,n1,rfl⟩
      go_wp2_with fail
      refine(HC _).out.mono ?_
      rintro e w2 ⟨rfl,hw2⟩
      subst hw2
      go_wp2_with fail
      refine(HTT _).out.mono ?_
      rintro e w3 ⟨rfl,hw3⟩
      rw[hw3]
      go_wp2_with fail
      go_ret
      exact⟨by rw[HV.out];rfl,_,rfl⟩
    | cons c q=>
      have HV:Hid (zaf r=letB c.1):=hV
      have hd:(zi (c::q)).data.toList=c.1::q.map (·.1):=zX _
      have hsz:0 < (zi (c::q)).size:=by rw[zG,List.length_cons];omega
      have he:(zi (c::q)).toList.isEmpty=false:=by rw[ByteArray.toList_eq,hd];rfl
      have hx:(zi (c::q))[0]'hsz=c.1:=by
        have e:(zi (c::q)).data.toList[0]?=some ((zi (c::q))[0]'hsz):=Lib.data_getElem? _ 0 hsz
        rw[hd]at e
        exact(Option.some.inj e).symm
      have hi0:(0:Int) < ((zi (c::q)).size:Int):=by omega
      have HLT:=Lib.hid (zhf c.1)
      generalize zi (c::q)=t2 at *
      clear hV hd
      go_enter Tryz.func63,Tryz.ntmps63
      go_wp2_with fail
      refine HR.out.mono ?_
      rintro e w1 ⟨rfl,n1,rfl⟩
      go_wp2_with fail
      refine(HC _).out.mono ?_
      rintro e w2 ⟨rfl,hw2⟩
      subst hw2
      go_wp2_with fail
      refine(HTT _).out.mono ?_
      rintro e w3 ⟨rfl,hw3⟩
      rw[hw3]
      go_wp2_with fail
      refine(HLT.out _).mono ?_
      rintro e w4 ⟨rfl,hw4⟩
      rw[hw4]
      go_wp2_with fail
      go_ret
      exact⟨by rw[HV.out];rfl,_,rfl⟩
end Go.Proofs.YtddgabjhligeeaaGreat.mk
