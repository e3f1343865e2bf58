/-
  ReaderBack,where what comes in is of bulk at most 1048576: THERE AND BACK: for every list of trees glazierlaw15.ReaderBack returns true: what serial.Html puts of it is read by reader.Read as the same trees,tags,attributes,texts and the zN of all bytes,and reader.Back tells so;what cannot be put,Back tells too.
  Conditions: none beside the bound that the statement itself names.
-/
import Derived.Test.YtddgabjhligeeaaGreatJoinAQ
import Derived.Test.YtddgabjhligeeaaGreatJoinBB
import Derived.Test.YtddgabjhligeeaaGreatJoinAT
import Derived.Test.YtddgabjhligeeaaGreatJoinAV
set_option maxHeartbeats 8000000
set_option maxRecDepth 100000
namespace Go.Proofs.YtddgabjhligeeaaGreat.mk
open Go.RowKit
theorem zmi(L:List PT):eqL (zj L) (zj L)=true:=by
  have h:=zt2 (pale:=false) (g:=id) zsf (zj L) (zj L) (zhE L) (zhE L)
  rw[zpT,zn9]at h
  exact h
theorem zug:∀ (Q:List PT) (ts:List TT),chL ts=Q->okIL Q:=by
  apply PT.ind
  intro Q IH ts hq
  subst hq
  have key:∀ us:List TT,(∀ t∈us,t∈ts)->okIL (chL us):=by
    intro us
    induction us with
    | nil=>intro _;rw[chL,okIL];trivial
    | cons t us ih=>
      intro h
      rw[chL,okIL]
      refine⟨(PT.okI_eq _).2 ⟨?_,fun a ha=>?_,?_⟩,ih fun y hy=>h y (List.mem_cons_of_mem _ hy)⟩
      . rw[TT.ch_text];exact t.text.ch_in
      . rw[TT.ch_eq]at ha
        obtain⟨x,_,rfl⟩:=List.mem_map.1 ha
        exact x.vl.ch_in
      . exact IH t.ch (by rw[zch];exact List.mem_map.2 ⟨t,h t (by simp),rfl⟩) t.kids (TT.ch_kids t).symm
  exact key ts fun _ h=>h
def zvd(L:List PT):Prop:=fitL L=true/\totL (putL L false)<=65536
theorem zj5(t:LT)(ts:List TT)(w:World)(mx:Int)(ho:t.ok w w.heap.size)(hf:fitL (chL ts)=true)(hz:totL (putL (chL ts) false)<=65536)(hc:t.ch=(putL (chL ts) false).flatten)(hmx:w.cell? ⟨0,0,none⟩=some (.int .i64 mx)) :
    Calls Tryz.prog 9 #[.agg #[.string t.s,.slice t.A t.n t.c]] w fun e w'=>∃ (K:Option Addr) (kn kc:Nat) (kids:List TT),e=.returned (.tuple #[.slice K kn kc,.int .i64 0])/\Hid (TreesIn0 w' K kn kids/\chL kids=zj (chL ts))/\Below w.heap.size w w':=by
  refine(zj3 t mx w ho hmx).mono ?_
  rintro e w' (⟨h,_⟩ | ⟨_,K,kn,kc,kids,rfl,h2,hb⟩)
  . exfalso
    have h1:t.ch.length=totL (putL (chL ts) false):=by rw[hc];rfl
    rw[LT.ch_length]at h1
    omega
  . exact⟨K,kn,kc,kids,rfl,⟨h2.out.1,by rw[h2.out.2,hc,zpP hf (zug _ ts rfl)]⟩,hb⟩
theorem zsu(mx:Int)(A:Option Addr)(n c:Nat)(ts:List TT)(w:World)(h:TreesIn0 w A n ts)(hsz:szL (chL ts)<=1048576)(hmx:w.cell? ⟨0,0,none⟩=some (.int .i64 mx)) :
    Calls Tryz.prog 17 #[.slice A n c] w fun e w'=>∃ b:Bool,e=.returned (.bool b)/\(zvd (chL ts)->b=true)/\((fitL (chL ts)=false\/65536 < totL (putL (chL ts) false))->b=false)/\Below w.heap.size w w':=by
  have HM:=Lib.hid hmx
  have hlo:0 < w.heap.size:=zcx _ _ _ hmx
  have HI:=Lib.hid h
  have HH:=Lib.hid (zmb A n c ts w h hsz)
  clear h hmx
  go_enter Tryz.func17,Tryz.ntmps17
  go_wp2_with fail
  refine HH.out.mono ?_
  rintro e w1 ⟨hb1,h1⟩
  have HB1:=Lib.hid hb1
  clear hb1 HH
  rcases h1 with ⟨hf,hz,t,rfl,hch⟩ | ⟨hf,rfl⟩ | ⟨hz,rfl⟩
  . have HF:=Lib.hid hf
    have HZ:=Lib.hid hz
    have HC:=Lib.hid hch.out
    clear hf hz hch
    generalize hw2:w1.alloc (.cells #[.string t.s,.slice t.A t.n t.c] 24)=w2
    have y2:Whole w2 w1.heap.size 24 #[.string t.s,.slice t.A t.n t.c]:=by rw[<-hw2];exact Whole.made _ _ _
    have hb2:Below w1.heap.size w1 w2:=by rw[<-hw2];exact(Below.refl _ _).alloc (Nat.le_refl _) _
    have c0:=y2.at_ 0
    have c1:=y2.at_ 1
    have HB2:Hid (Below w.heap.size w w2):=zb HB1.out (Nat.le_refl _) hb2
    have HRD:=Lib.hid (zj5 t ts w2 mx ((HC.out.2.below hb2).ok) HF.out HZ.out HC.out.1 ((HB2.out.cell hlo).trans HM.out))
    clear y2 hb2
    go_wp2_with fail
    refine HRD.out.mono ?_
    rintro e w3 ⟨K,kn,kc,kids,rfl,h3,hb3⟩
    have HB3:Hid (Below w.heap.size w w3):=zb HB2.out (Nat.le_refl _) hb3
    have HSM:Hid (Calls Tryz.prog 18 #[.slice A n c,.slice K kn kc] w3 fun e w'=>e=.returned (.bool true)/\Below w3.heap.size w3 w'):=by
      have h4:=zjR A n c ts K kn kc kids w3 (HI.out.next HB3.out) h3.out.1
      rw[h3.out.2,zfX,zmi]at h4
      exact h4
    clear h3 hb3 hw2
    go_wp2_with fail
    refine HSM.out.mono ?_
    rintro e w4 ⟨rfl,hb4⟩
    go_wp2_with fail
    go_ret
    refine⟨true,rfl,fun _=>rfl,fun h=>?_,zb HB3.out (Nat.le_refl _) hb4⟩
    rcases h with h | h
    . rw[HF.out]at h;cases h
    . exact absurd HZ.out (Nat.not_le.2 h)
  . have HF:=Lib.hid hf
    clear hf
    go_wp2_with fail
    go_ret
    exact⟨false,rfl,(fun h=>absurd (HF.out.symm.trans h.1) Bool.false_ne_true),fun _=>rfl,HB1.out.alloc HB1.out.size _⟩
  . have HZ:=Lib.hid hz
    clear hz
    go_wp2_with fail
    go_ret
    exact⟨false,rfl,fun h=>absurd h.2 (Nat.not_le.2 HZ.out),fun _=>rfl,HB1.out.alloc HB1.out.size _⟩
theorem zgX(mx:Int)(A:Option Addr)(n c:Nat)(ts:List TT)(w:World)(hmx:w.cell? ⟨0,0,none⟩=some (.int .i64 mx))(h:TreesIn0 w A n ts)(hsz:szL (chL ts)<=1048576) :
    Calls Tryz.prog 4 #[.slice A n c] w fun e w'=>e=.returned (.bool true)/\Below w.heap.size w w':=by
  have HM:=Lib.hid hmx
  have hlo:0 < w.heap.size:=zcx _ _ _ hmx
  have HI:=Lib.hid h
  have HS:Hid (∀ w',Below w.heap.size w w'->Calls Tryz.prog 15 #[.slice A n c] w' fun e w''=>e=.returned (.int .i64 (wtL (zj (chL ts)):Int))/\Below w'.heap.size w' w''):=fun w' hb=>by
    have h2:=h.next hb
    exact zrP A n c ts w' h2.lies h2.all h2.len (fun _ h=>h) h2.bulk
  have HH:Hid (∀ w',Below w.heap.size w w'->Calls Tryz.prog 16 #[.slice A n c] w' (zma (chL ts) w')):=fun w' hb=>zmb A n c ts w' (h.next hb) hsz
  have HBK:Hid (∀ w',Below w.heap.size w w'->Calls Tryz.prog 17 #[.slice A n c] w' fun e w''=>∃ b:Bool,e=.returned (.bool b)/\(zvd (chL ts)->b=true)/\((fitL (chL ts)=false\/65536 < totL (putL (chL ts) false))->b=false)/\Below w'.heap.size w' w''):=fun w' hb=>zsu mx A n c ts w' (h.next hb) hsz ((hb.cell hlo).trans HM.out)
  clear h hsz hmx
  go_enter Tryz.func4,Tryz.ntmps4
  go_wp2_with fail
  refine(zla mx w HM.out).mono ?_
  rintro e w1 ⟨rfl,hb1⟩
  have HB1:=Lib.hid hb1
  clear hb1
  go_wp2_with fail
  refine(HS.out w1 HB1.out).mono ?_
  generalize wtL (zj (chL ts))=sz at *
  rintro e w2 ⟨rfl,hb2⟩
  have HB2:Hid (Below w.heap.size w w2):=zb HB1.out (Nat.le_refl _) hb2
  clear hb2 HS
  by_cases hbig:(200:Int) < (sz:Int)
  . go_wp2_with fail
    go_ret
    exact⟨rfl,HB2.out⟩
  . go_wp2_with fail
    refine(HH.out w2 HB2.out).mono ?_
    rintro e w3 ⟨hb3,h⟩
    have HB3:Hid (Below w.heap.size w w3):=zb HB2.out (Nat.le_refl _) hb3
    clear hb3 HH
    rcases h with ⟨hf,hz,t,rfl,hch⟩ | ⟨hf,rfl⟩ | ⟨hz,rfl⟩
    . have HF:=Lib.hid hf
      have HZ:=Lib.hid hz
      have HC:=Lib.hid hch.out
      clear hf hz hch
      go_upto_region 6 with fail
      generalize hw4:w3.alloc (.cells #[.string t.s,.slice t.A t.n t.c] 24)=w4
      have y4:Whole w4 w3.heap.size 24 #[.string t.s,.slice t.A t.n t.c]:=by rw[<-hw4];exact Whole.made _ _ _
      have hb4:Below w3.heap.size w3 w4:=by rw[<-hw4];exact(Below.refl _ _).alloc (Nat.le_refl _) _
      have c0:=y4.at_ 0
      have c1:=y4.at_ 1
      have HB4:Hid (Below w.heap.size w w4):=zb HB3.out (Nat.le_refl _) hb4
      have HRD:=Lib.hid (zj5 t ts w4 mx ((HC.out.2.below hb4).ok) HF.out HZ.out HC.out.1 ((HB4.out.cell hlo).trans HM.out))
      clear y4 hb4 hw4
      go_wp2_with fail
      refine HRD.out.mono ?_
      rintro e w5 ⟨K,kn,kc,kids,rfl,h5,hb5⟩
      have HB5:Hid (Below w.heap.size w w5):=zb HB4.out (Nat.le_refl _) hb5
      have HSM:Hid (Calls Tryz.prog 18 #[.slice K kn kc,.slice A n c] w5 fun e w'=>e=.returned (.bool true)/\Below w5.heap.size w5 w'):=by
        have h4:=zjR K kn kc kids A n c ts w5 h5.out.1 (HI.out.next HB5.out)
        rw[h5.out.2,zfX,zmi]at h4
        exact h4
      clear h5 hb5 HRD
      go_wp2_with fail
      refine HSM.out.mono ?_
      rintro e w6 ⟨rfl,hb6⟩
      have HB6:Hid (Below w.heap.size w w6):=zb HB5.out (Nat.le_refl _) hb6
      clear hb6 HSM
      go_wp2_with fail
      refine(HBK.out w6 HB6.out).mono ?_
      rintro e w7 ⟨b,rfl,hbt,_,hb7⟩
      obtain rfl:b=true:=hbt ⟨HF.out,HZ.out⟩
      have HB7:Hid (Below w.heap.size w w7):=zb HB6.out (Nat.le_refl _) hb7
      clear hbt hb7
      go_wp2_with fail
      go_ret
      exact⟨rfl,HB7.out⟩
    . have HF:=Lib.hid hf
      clear hf
      go_upto_region 7 with fail
      generalize hw4:w3.alloc (.cells #[.string ⟨#[]⟩,.slice none 0 0] 24)=w4
      have HB4:Hid (Below w.heap.size w w4):=by rw[<-hw4];exact HB3.out.alloc HB3.out.size _
      clear hw4
      go_wp2_with fail
      refine(HBK.out w4 HB4.out).mono ?_
      rintro e w5 ⟨b,rfl,_,hbf,hb5⟩
      obtain rfl:b=false:=hbf (.inl HF.out)
      clear hbf
      go_wp2_with fail
      go_ret
      exact⟨rfl,zb HB4.out (Nat.le_refl _) hb5⟩
    . have HZ:=Lib.hid hz
      clear hz
      go_upto_region 7 with fail
      generalize hw4:w3.alloc (.cells #[.string ⟨#[]⟩,.slice none 0 0] 24)=w4
      have HB4:Hid (Below w.heap.size w w4):=by rw[<-hw4];exact HB3.out.alloc HB3.out.size _
      clear hw4
      go_wp2_with fail
      refine(HBK.out w4 HB4.out).mono ?_
      rintro e w5 ⟨b,rfl,_,hbf,hb5⟩
      obtain rfl:b=false:=hbf (.inr HZ.out)
      clear hbf
      go_wp2_with fail
      go_ret
      exact⟨rfl,zb HB4.out (Nat.le_refl _) hb5⟩
end Go.Proofs.YtddgabjhligeeaaGreat.mk
namespace Go.Proofs.YtddgabjhligeeaaGreat.readerBack
open Go.ChangeShapes Go.WideShapes Go.ChangeAt Go.RowKit Go.Proofs.YtddgabjhligeeaaGreat.mk
theorem contract(H:Type)(enc:TypeId × Value->H)(W:World)(args:Array Value)(ds gs:List (DataW H))(before:List MemPlace)(base:Nat)(hsh:W.ShapedOpen Tryz.prog)
    (hval:∀ (j:Nat) t v,Tryz.f4.params[j]?=some t->args[j]?=some v->Value.okWide Tryz.prog W .any base t v)
    (hW:DataW.Whole enc Tryz.prog Tryz.f4.params.toList Rows.readerBackSpec.vars false W args.toList ds gs before) (hk:Rows.uptoSmall H (ds++ gs)=true) :
    Calls Tryz.prog 4 args W fun e W'=>∃ v,e=.returned v/\Rows.readerBackSpec.post enc Tryz.prog Tryz.f4 false true false false W args v W':=by
  obtain⟨p,q,hA0,hV,rfl,hfz,hnd⟩:=id hW
  have hA:DataW.TrodAll enc Tryz.prog W 0 (fun _=>true) true Tryz.f4.params.toList args.toList ds p:=hA0
  rw[Tryz.params4]at hA hval
  obtain⟨v0,vs0,d0,ds0,p0,q0,hargs,rfl,rfl,h0,r0⟩:=trodAll_cons hA
  obtain⟨rfl,rfl,rfl⟩:=trodAll_nil r0
  obtain rfl:args=#[v0]:=by cases args;simp_all
  obtain⟨rfl,rfl⟩:=trodVars_none hV
  have hbk:=zmj hk
  simp only[List.append_nil,Rows.uptoBulkAll]at hbk
  have hbk2:Rows.uptoBulk d0<=1048576:=by omega
  obtain⟨fuel0,hf0⟩:=h0
  obtain⟨L0,m0,c0,rfl⟩:=okWide_slice Tryz.underlying27 (hval 0 27 v0 rfl rfl)
  obtain⟨L0',m0',c0',ts0,hv0,hl0,hm0,hLc0,hmc0,hok0,hsz0⟩:=zk0 hf0 (by show Rows.uptoBulk d0<=1048576;omega)
  cases hv0
  simp only at hsz0
  obtain⟨mx,hmx⟩:=Tryz.maxLen_cell hsh
  refine(zgX mx L0 m0 c0 ts0 W hmx ⟨hl0,hok0,hm0,Nat.le_trans (zrz _) (by omega)⟩ (by omega)).mono fun e W' ⟨he,hb⟩=>?_
  subst he
  exact⟨_,rfl,zqH (tb:=4) zsN hW rfl ⟨rfl,rfl,rfl⟩ (by rw[Tryz.params4];exact ziJ (by kernel_rfl)) rfl Tryz.underlying4 hb⟩
theorem lifted(os:Os)(started:os.Started)(H:Type)(enc:TypeId × Value->H)(F:Stop.Interp) :
    ReturnsInHanded {} Tryz.checked os 4 .any ((Rows.OpenSpec.upto Rows.readerBackSpec).pre6 enc Tryz.prog Tryz.f4 Rows.readerBackUptoRow.domain false) (((Rows.OpenSpec.upto Rows.readerBackSpec).at F).post enc Tryz.prog Tryz.f4 false true false false):=by
  refine zhN (C:=Tryz.checked) (s:=Rows.OpenSpec.upto Rows.readerBackSpec) (k:=Rows.uptoSmall) rfl own started (by kernel_rfl) Tryz.func4
    (OpenSpec.witness (enc:=enc) (C:=Tryz.checked) (s:=Rows.OpenSpec.upto Rows.readerBackSpec) (k:=Rows.uptoSmall) rfl false ⟨#[],#[.slice none 0 0],[]⟩ 8 (by kernel_rfl) (by kernel_rfl) (by kernel_rfl)
      (x:=([.nil],[],[])) (by kernel_rfl) rfl (by kernel_rfl)) ?_
  intro W base args ds gs before hsh hval hW hk
  exact contract H enc W args ds gs before base hsh hval hW hk
theorem proved:Rows.ReaderBackUptoSaid:=
  OpenClaim.holds_of_cond 4 Tryz.f4 rfl rfl rfl rfl rfl rfl rfl ⟨rfl,rfl,rfl,rfl,rfl⟩ rfl rfl rfl rfl rfl (by kernel_rfl) Tryz.func4 (by kernel_rfl)
    (of_decide_eq_true (by kernel_rfl)) (by unfold Func.isWrapper;first | (rw[if_pos (by decide+kernel)];kernel_rfl) | (rw[if_neg (by decide+kernel)];exact⟨rfl,rfl⟩))
    (fun os started H enc _ F=>lifted os started H enc F)
end Go.Proofs.YtddgabjhligeeaaGreat.readerBack
