import Derived.Test.YtddgabjhligeeaaGreatJnAW
import Derived.Test.YtddgabjhligeeaaGreatJnAM
set_option maxHeartbeats 4000000
set_option maxRecDepth 100000
namespace Go.Proofs.YtddgabjhligeeaaGreat.mk
open Go.RowKit
def elK(t:KT):TT:=⟨t.nm,t.A,t.n,t.c,t.ats,none,0,0,[],noT⟩
theorem zn8{S:Nat->Prop}{w:World}{t:KT}(h:t.inS S w):AllS S w [elK t]:=by
  refine AllS.one ⟨h.nm,ziI _ _,h.att,h.an,h.ac,h.am,h.atts,LiesS.nil _ _ _,rfl,fun _=>rfl,Nat.zero_le _⟩ (AllS.nil _ _)
theorem zn9(t:KT):(elK t).ch=⟨t.ch.name,t.ch.attrs,[],[]⟩:=by
  rw[TT.ch_eq]
  show PT.mk t.nm.ch (t.ats.map AT.ch) (chL []) noT.ch=_
  rw[zn2,chL]
  rfl
theorem zj0{S:Nat->Prop}{base g bm co cl mn:Nat}{Ao Al:Option Addr}{fr ls:List TT}{f:List UInt8->Int}(t1:TT)(w:World)(h:BldM S w base g bm Ao co fr Al cl ls mn f)(ht:AllS S w [t1])(hls:ls.length<=1048576)(hnm:t1.tag.s.data.toList≠[])(hv:zjo t1.tag.s.data.toList=true) :
    Calls Tryz.prog 103 #[.pointer (some ⟨g,0,none⟩),.agg #[.string t1.tag.s,.slice t1.tag.A t1.tag.n t1.tag.c,.slice t1.A t1.n t1.c,.slice t1.K t1.kn t1.kc,.string t1.text.s,.slice t1.text.A t1.text.n t1.text.c]] w fun e w'=>e=.returned (.tuple #[])/\∃ (Al':Option Addr) (cl':Nat),BldM S w' base g bm Ao co fr Al' cl' (ls++ [t1]) mn f/\Below base w w':=by
  obtain⟨i0,hi,hz0,hz1,hz2⟩:=info_parts zbL
  have HV:=Lib.hid (zeh t1.tag.s)
  rw[hv]at HV
  have hx:(t1.tag.s.toList == [])=false:=by rw[beq_eq_false_iff_ne,ByteArray.toList_eq];exact hnm
  have hx2:t1.tag.s.toList.isEmpty=false:=by
    cases hq:t1.tag.s.toList with
    | nil=>rw[hq]at hx;exact absurd hx (by decide)
    | cons a b=>rfl
  have H00:=Lib.hid h
  have HA:=Lib.hid ht
  clear h ht hv hnm
  go_enter Tryz.func103,Tryz.ntmps103
  go_wp2_with fail
  generalize hw0:w.alloc (.cells #[.string t1.tag.s,.slice t1.tag.A t1.tag.n t1.tag.c,.slice t1.A t1.n t1.c,.slice t1.K t1.kn t1.kc,.string t1.text.s,.slice t1.text.A t1.text.n t1.text.c] 48)=w0
  have y0:Hid (Whole w0 w.heap.size 48 #[.string t1.tag.s,.slice t1.tag.A t1.tag.n t1.tag.c,.slice t1.A t1.n t1.c,.slice t1.K t1.kn t1.kc,.string t1.text.s,.slice t1.text.A t1.text.n t1.text.c]):=by rw[<-hw0];exact Whole.made _ _ _
  have hb0:Below w.heap.size w w0:=by rw[<-hw0];exact(Below.refl _ _).alloc (Nat.le_refl _) _
  have H0:=Lib.hid (H00.out.below hb0)
  have HA0:Hid (AllS S w0 [t1]):=HA.out.keep (Stays.of hb0)
  have HB0:Hid (Below base w w0):=hb0.mono H00.out.bw
  generalize hebb:w.heap.size=eb at *
  clear hw0 hb0
  refine(HV.out w0).mono ?_
  rintro e wy ⟨rfl,rfl⟩
  go_upto_region 4 with fail
  have hS:w0.drew.cell? ⟨g,1,none⟩=some (.slice Al ls.length cl)/\Whole w0.drew eb 48 #[.string t1.tag.s,.slice t1.tag.A t1.tag.n t1.tag.c,.slice t1.A t1.n t1.c,.slice t1.K t1.kn t1.kc,.string t1.text.s,.slice t1.text.A t1.text.n t1.text.c]:=⟨H0.out.at1,y0.out.drew⟩
  have H000:=H00
  refine z8 (S:=(fun V=>V.cell? ⟨g,1,none⟩=some (.slice Al ls.length cl)/\Whole V eb 48 #[.string t1.tag.s,.slice t1.tag.A t1.tag.n t1.tag.c,.slice t1.A t1.n t1.c,.slice t1.K t1.kn t1.kc,.string t1.text.s,.slice t1.text.A t1.text.n t1.text.c])) (Z:=(fun i=>decide (8<=i))) (by kernel_rfl) ?_
  have hla0:(0:Int)<=(ls.length:Int):=Int.natCast_nonneg _
  have hla1:(ls.length:Int) < ((ls.length+1:Nat):Int):=by omega
  have hla2:(ls.length:Int) < (ls.length:Int)+1:=by omega
  refine' zb (i:=0) ?i1 (by kernel_rfl) (by kernel_rfl) (by kernel_rfl) (by kernel_rfl) ?q1 ?y1 hS ?r1
  case i1=>simp only[zlD,zlE];rfl
  case q1=>exact fun _ _ _ h=>h
  case y1=>
    refine Or.inl ⟨by rfl,?_⟩
    intro wq hq
    try dsimp only at hq
    try obtain⟨hq0,hq1⟩:=hq
    go_simp
    try with_reducible rfl
  try simp only[Act.put,zlA,zlB,zlC]
  refine' zb (i:=1) ?i2 (by kernel_rfl) (by kernel_rfl) (by kernel_rfl) (by kernel_rfl) ?q2 ?y2 hS ?r2
  case i2=>simp only[zlD,zlF,zlE];rfl
  case q2=>exact fun _ _ _ h=>h
  case y2=>
    refine Or.inl ⟨by rfl,?_⟩
    intro wq hq
    try dsimp only at hq
    try obtain⟨hq0,hq1⟩:=hq
    go_simp
    try with_reducible rfl
  try simp only[Act.put,zlA,zlB,zlC]
  refine' zb (i:=2) ?i3 (by kernel_rfl) (by kernel_rfl) (by kernel_rfl) (by kernel_rfl) ?q3 ?y3 hS ?r3
  case i3=>simp only[zlD,zlF,zlE];rfl
  case q3=>exact fun _ _ _ h=>h
  case y3=>
    refine Or.inl ⟨by rfl,?_⟩
    intro wq hq
    try dsimp only at hq
    try obtain⟨hq0,hq1⟩:=hq
    go_simp
    try with_reducible rfl
  try simp only[Act.put,zlA,zlB,zlC]
  refine' zb (i:=3) ?i4 (by kernel_rfl) (by kernel_rfl) (by kernel_rfl) (by kernel_rfl) ?q4 ?y4 hS ?r4
  case i4=>simp only[zlD,zlF,zlE];rfl
  case q4=>exact fun _ _ _ h=>h
  case y4=>
    refine Or.inl ⟨by rfl,?_⟩
    intro wq hq
    try dsimp only at hq
    try obtain⟨hq0,hq1⟩:=hq
    go_simp
    try with_reducible rfl
  try simp only[Act.put,zlA,zlB,zlC]
  refine' zb (i:=4) ?i5 (by kernel_rfl) (by kernel_rfl) (by kernel_rfl) (by kernel_rfl) ?q5 ?y5 hS ?r5
  case i5=>simp only[zlD,zlF,zlE];rfl
  case q5=>exact fun _ _ _ h=>h
  case y5=>
    refine Or.inl ⟨by rfl,?_⟩
    intro wq hq
    try dsimp only at hq
    try obtain⟨hq0,hq1⟩:=hq
    have hr0:=hq1.at_ 0
    have hr1:=hq1.at_ 1
    have hr2:=hq1.at_ 2
    have hr3:=hq1.at_ 3
    have hr4:=hq1.at_ 4
    have hr5:=hq1.at_ 5
    have hr6:=hq1.at_ 6
    go_simp
    try with_reducible rfl
  try simp only[Act.put,zlA,zlB,zlC]
  refine' zb (i:=5) ?i6 (by kernel_rfl) (by kernel_rfl) (by kernel_rfl) (by kernel_rfl) ?q6 ?y6 hS ?r6
  case i6=>simp only[zlD,zlF,zlE];rfl
  case q6=>exact fun _ _ _ h=>h
  case y6=>
    refine Or.inl ⟨by rfl,?_⟩
    intro wq hq
    try dsimp only at hq
    try obtain⟨hq0,hq1⟩:=hq
    go_simp
    try with_reducible rfl
  try simp only[Act.put,zlA,zlB,zlC]
  refine za (rs:=[6]) (by kernel_rfl) (by simp) ?_
  refine' ReadyL.cons ?o7 (fun K hK=>?s7) ReadyL.nil
  case o7=>simp only[zlD,zlF,zlE];rfl
  go_simp
  have hba:Below w0.heap.size w0 (w0.drew.alloc (.cells (zj zeroTT).toArray 48)):=(Below.drew (Below.refl w0.heap.size w0)).alloc (Nat.le_refl _) _
  have h6a:=H0.out.below hba
  have HA7:Hid (AllS S (w0.drew.alloc (.cells (zj zeroTT).toArray 48)) [t1]):=HA0.out.keep (Stays.of hba)
  have HBA:Hid (Below base w (w0.drew.alloc (.cells (zj zeroTT).toArray 48))):=HB0.out.trans (hba.mono H0.out.bw)
  refine hK.out _ _ (.inr ⟨h6a.at1,hS.2.alloc _⟩) ?_
  have hS2:Whole (w0.drew.alloc (.cells (zj zeroTT).toArray 48)) eb 48 #[.string t1.tag.s,.slice t1.tag.A t1.tag.n t1.tag.c,.slice t1.A t1.n t1.c,.slice t1.K t1.kn t1.kc,.string t1.text.s,.slice t1.text.A t1.text.n t1.text.c]:=hS.2.alloc _
  clear hK K hba hS
  try simp only[Act.put,zlA,zlB,zlC]
  refine za (rs:=[7]) (by kernel_rfl) (by simp) ?_
  refine' ReadyL.cons ?o8 (fun K hK=>?s8) ReadyL.nil
  case o8=>simp only[zlD,zlF,zlE];rfl
  refine zA _ (by rfl) (.tmp 15) (.tmp 18) 27 (by rfl) base 48 i0 _ 6 128 Tryz.underlying27 hi hz0 hz1 hz2 rfl (by omega) (.slice Al ls.length cl) ls.length _ (by rfl) h6a.loo _ (some ⟨w0.heap.size,0,none⟩) 1 1 (zj zeroTT) (by rfl) (by simp) (by rfl) (za0 (Whole.made w0.drew _ _) rfl) (zaZ _) (by simp only[maxLen];omega) (by omega) h6a.bw ?_
  intro v2 w7 hown7 hgr7 hbl7
  obtain⟨gK,kc',cur,rfl,hgKb,hgK⟩:∃ gK cap cur,v2=.slice (some ⟨gK,0,none⟩) (ls.length+1) cap/\base<=gK/\w7.heap[gK]?=some (.cells cur 48 (0,0)):=by
    rcases hown7.2 with ⟨_,h0⟩ | ⟨gK,cap,cur,hv,hb,hg,_⟩
    . omega
    . exact⟨gK,cap,cur,hv,hb,hg⟩
  rw[zm]at hgr7
  rw[zm,zm]at hbl7
  have hbg:Whole w7 g 58 #[.slice Ao fr.length co,.slice Al ls.length cl,.map (some bm)]:=h6a.box.grown hgr7 (fun e=>(h6a.notg h6a.loo e.symm).1 rfl)
  have hne1:gK≠g:=by
    rintro rfl
    unfold Whole at hbg
    rw[hgK]at hbg
    injection hbg with hbg
    injection hbg with _ hbg _
    exact absurd hbg (by decide)
  have hne2:g≠gK:=Ne.symm hne1
  have hcz:∀ j u,j < 6->(zj zeroTT)[j]?=some u->w7.cell? ⟨gK,ls.length * 6+j,none⟩=some u:=fun j u hj hu=>by
    have h1:=hown7
    rw[<-zL]at h1
    obtain⟨ad,e,_,hc⟩:=Lies.own h1 _ _ ((zav (ls++ [zeroTT]) ls.length zeroTT (by rw[List.getElem?_concat_length]) j hj).trans hu)
    injection e with e
    subst e
    rw[zbl]at hc
    exact hc
  have z0:w7.cell? ⟨gK,ls.length * 6,none⟩=some (.string ⟨#[]⟩):=hcz 0 _ (by omega) rfl
  have z1:=hcz 1 _ (by omega) rfl
  have z2:=hcz 2 _ (by omega) rfl
  have z3:=hcz 3 _ (by omega) rfl
  have z4:=hcz 4 _ (by omega) rfl
  have z5:=hcz 5 _ (by omega) rfl
  have zf0:w7.frozen? ⟨gK,ls.length * 6,none⟩=false:=frozen_of_row w7 gK _ cur _ hgK
  have zf1:w7.frozen? ⟨gK,ls.length * 6+1,none⟩=false:=frozen_of_row w7 gK _ cur _ hgK
  have zf2:w7.frozen? ⟨gK,ls.length * 6+2,none⟩=false:=frozen_of_row w7 gK _ cur _ hgK
  have zf3:w7.frozen? ⟨gK,ls.length * 6+3,none⟩=false:=frozen_of_row w7 gK _ cur _ hgK
  have zf4:w7.frozen? ⟨gK,ls.length * 6+4,none⟩=false:=frozen_of_row w7 gK _ cur _ hgK
  have zf5:w7.frozen? ⟨gK,ls.length * 6+5,none⟩=false:=frozen_of_row w7 gK _ cur _ hgK
  have haf:(⟨gK,0,none⟩:Addr).add (ls.length * 6)=⟨gK,ls.length * 6,none⟩:=zbl _ _
  have q3:w7.cell? ⟨g,1,none⟩=some (.slice Al ls.length cl):=hbg.at_ 1
  have qf3:w7.frozen? ⟨g,1,none⟩=false:=hbg.free 1
  have hneb:some eb≠blkA Al:=fun e=>by
    have h1:=(H000.out.loo.lt eb (by rw[zm];exact e.symm)).2
    omega
  have y7:Whole w7 eb 48 #[.string t1.tag.s,.slice t1.tag.A t1.tag.n t1.tag.c,.slice t1.A t1.n t1.c,.slice t1.K t1.kn t1.kc,.string t1.text.s,.slice t1.text.A t1.text.n t1.text.c]:=hS2.grown hgr7 hneb
  have ho7:=hown7
  rw[<-zL]at ho7
  obtain⟨ho8,hm8⟩:=zbk (k:=ls.length) t1 ho7 (by rw[List.length_append];show _ < _+1;omega)
  have hset:(ls++ [zeroTT]).set ls.length t1=ls++ [t1]:=by
    rw[List.set_append,if_neg (by omega),Nat.sub_self]
    rfl
  rw[hset,zao]at ho8
  have hgr8:(w0.drew.alloc (.cells (zj zeroTT).toArray 48)).grownBy ((((((w7.setCell ⟨gK,ls.length * 6,none⟩ (.string t1.tag.s)).setCell ⟨gK,ls.length * 6+1,none⟩ (.slice t1.tag.A t1.tag.n t1.tag.c)).setCell ⟨gK,ls.length * 6+2,none⟩ (.slice t1.A t1.n t1.c)).setCell ⟨gK,ls.length * 6+3,none⟩ (.slice t1.K t1.kn t1.kc)).setCell ⟨gK,ls.length * 6+4,none⟩ (.string t1.text.s)).setCell ⟨gK,ls.length * 6+5,none⟩ (.slice t1.text.A t1.text.n t1.text.c)) (blkA Al):=
    ⟨hm8.os.trans hgr7.os,hm8.tape.trans hgr7.tape,hm8.output.trans hgr7.output,Nat.le_trans hgr7.size hm8.size,fun k hk hs=>(hm8.block k (Nat.lt_of_lt_of_le hk hgr7.size) (fun e=>by
      rcases hbl7 with e2 | e2
      . exact hs (by rw[e,<-e2];rfl)
      . have e2:some gK=some _:=e2
        injection e2 with e2
        exact Nat.lt_irrefl _ (Nat.lt_of_lt_of_eq hk (e.trans e2).symm))).trans (hgr7.block k hk hs)⟩
  have HF7:=Lib.hid (h6a.pushLoose HA7.out hgr8 hbl7 ho8)
  have HB7:Hid (Below base w (((((((w7.setCell ⟨gK,ls.length * 6,none⟩ (.string t1.tag.s)).setCell ⟨gK,ls.length * 6+1,none⟩ (.slice t1.tag.A t1.tag.n t1.tag.c)).setCell ⟨gK,ls.length * 6+2,none⟩ (.slice t1.A t1.n t1.c)).setCell ⟨gK,ls.length * 6+3,none⟩ (.slice t1.K t1.kn t1.kc)).setCell ⟨gK,ls.length * 6+4,none⟩ (.string t1.text.s)).setCell ⟨gK,ls.length * 6+5,none⟩ (.slice t1.text.A t1.text.n t1.text.c)).setCell ⟨g,1,none⟩ (.slice (some ⟨gK,0,none⟩) (ls.length+1) kc'))):=by
    have h2:Below base (w0.drew.alloc (.cells (zj zeroTT).toArray 48)) ((((((w7.setCell ⟨gK,ls.length * 6,none⟩ (.string t1.tag.s)).setCell ⟨gK,ls.length * 6+1,none⟩ (.slice t1.tag.A t1.tag.n t1.tag.c)).setCell ⟨gK,ls.length * 6+2,none⟩ (.slice t1.A t1.n t1.c)).setCell ⟨gK,ls.length * 6+3,none⟩ (.slice t1.K t1.kn t1.kc)).setCell ⟨gK,ls.length * 6+4,none⟩ (.string t1.text.s)).setCell ⟨gK,ls.length * 6+5,none⟩ (.slice t1.text.A t1.text.n t1.text.c)):=(Below.refl base _).grown hgr8 h6a.bw (fun k hk=>(h6a.loo.lt k (by rw[zm];exact hk)).1)
    exact(HBA.out.trans h2).setCell h6a.gb.1 _
  have HCM:Hid ((((((((w7.setCell ⟨g,1,none⟩ (.slice (some ⟨gK,0,none⟩) (ls.length+1) kc')).setCell ⟨gK,ls.length * 6,none⟩ (.string t1.tag.s)).setCell ⟨gK,ls.length * 6+1,none⟩ (.slice t1.tag.A t1.tag.n t1.tag.c)).setCell ⟨gK,ls.length * 6+2,none⟩ (.slice t1.A t1.n t1.c)).setCell ⟨gK,ls.length * 6+3,none⟩ (.slice t1.K t1.kn t1.kc)).setCell ⟨gK,ls.length * 6+4,none⟩ (.string t1.text.s)).setCell ⟨gK,ls.length * 6+5,none⟩ (.slice t1.text.A t1.text.n t1.text.c))=((((((w7.setCell ⟨gK,ls.length * 6,none⟩ (.string t1.tag.s)).setCell ⟨gK,ls.length * 6+1,none⟩ (.slice t1.tag.A t1.tag.n t1.tag.c)).setCell ⟨gK,ls.length * 6+2,none⟩ (.slice t1.A t1.n t1.c)).setCell ⟨gK,ls.length * 6+3,none⟩ (.slice t1.K t1.kn t1.kc)).setCell ⟨gK,ls.length * 6+4,none⟩ (.string t1.text.s)).setCell ⟨gK,ls.length * 6+5,none⟩ (.slice t1.text.A t1.text.n t1.text.c)).setCell ⟨g,1,none⟩ (.slice (some ⟨gK,0,none⟩) (ls.length+1) kc')):=by
    show _=_
    rw[zy w7 ⟨g,1,none⟩ ⟨gK,ls.length * 6,none⟩ hne2,zy _ ⟨g,1,none⟩ ⟨gK,ls.length * 6+1,none⟩ hne2,zy _ ⟨g,1,none⟩ ⟨gK,ls.length * 6+2,none⟩ hne2,zy _ ⟨g,1,none⟩ ⟨gK,ls.length * 6+3,none⟩ hne2,zy _ ⟨g,1,none⟩ ⟨gK,ls.length * 6+4,none⟩ hne2,zy _ ⟨g,1,none⟩ ⟨gK,ls.length * 6+5,none⟩ hne2]
  refine hK.out _ _ (.inr ⟨q3,y7⟩) ?_
  clear hK K hown7 hgr7 hbl7 hgK hcz hbg y7 ho7 ho8 hm8 hset hgr8 hS2 h6a
  try simp only[Act.put,zlA,zlB,zlC]
  refine za (rs:=[8,10]) (by kernel_rfl) (by simp) ?_
  refine' ReadyL.cons ?o9 (fun K hK=>?s9) ?m9
  case o9=>simp only[zlD,zlF,zlE];rfl
  case s9=>
    go_simp
    refine hK.out _ _ (.inl (by decide)) ?_
    clear hK K
    try simp only[Act.put,zlA,zlB,zlC]
    refine za (rs:=[9,10]) (by kernel_rfl) (by simp) ?_
    refine' ReadyL.cons ?o10 (fun K hK=>?s10) ?m10
    case o10=>simp only[zlD,zlF,zlE];rfl
    case s10=>
      go_simp
      refine hK.out _ _ (.inl (by decide)) ?_
      clear hK K
      try simp only[Act.put,zlA,zlB,zlC]
      refine za (rs:=[10]) (by kernel_rfl) (by simp) ?_
      refine' ReadyL.cons ?o11 (fun K hK=>?s11) ReadyL.nil
      case o11=>simp only[zlD,zlF,zlE];rfl
      go_simp
      refine hK.out _ _ (.inl (by decide)) ?_
      clear hK K
      try simp only[Act.put,zlA,zlB,zlC]
      refine za (rs:=[11]) (by kernel_rfl) (by simp) ?_
      refine' ReadyL.cons ?o12 (fun K hK=>?s12) ReadyL.nil
      case o12=>simp only[zlD,zlF,zlE];rfl
      go_simp
      refine hK.out _ _ (.inl (by decide)) ?_
      clear hK K
      try simp only[Act.put,zlA,zlB,zlC]
      refine za (rs:=[12]) (by kernel_rfl) (by simp) ?_
      refine' ReadyL.cons ?o13 (fun K hK=>?s13) ReadyL.nil
      case o13=>simp only[zlD,zlF,zlE];rfl
      go_simp
      refine hK.out _ _ (.inl (by decide)) ?_
      clear hK K
      try simp only[Act.put,zlA,zlB,zlC]
      refine zg (by kernel_rfl) ?_ _
      go_wp2_with fail
      refine bodyPost_ret (results_none rfl _ _ _) rfl ?_
      exact⟨rfl,some ⟨gK,0,none⟩,kc',HF7.out,HB7.out⟩
    refine' ReadyL.cons ?o14 (fun K hK=>?s14) ReadyL.nil
    case o14=>simp only[zlD,zlF,zlE];rfl
    go_simp
    refine hK.out _ _ (.inl (by decide)) ?_
    clear hK K
    try simp only[Act.put,zlA,zlB,zlC]
    refine za (rs:=[9,11]) (by kernel_rfl) (by simp) ?_
    refine' ReadyL.cons ?o15 (fun K hK=>?s15) ?m15
    case o15=>simp only[zlD,zlF,zlE];rfl
    case s15=>
      go_simp
      refine hK.out _ _ (.inl (by decide)) ?_
      clear hK K
      try simp only[Act.put,zlA,zlB,zlC]
      refine za (rs:=[11]) (by kernel_rfl) (by simp) ?_
      refine' ReadyL.cons ?o16 (fun K hK=>?s16) ReadyL.nil
      case o16=>simp only[zlD,zlF,zlE];rfl
      go_simp
      refine hK.out _ _ (.inl (by decide)) ?_
      clear hK K
      try simp only[Act.put,zlA,zlB,zlC]
      refine za (rs:=[12]) (by kernel_rfl) (by simp) ?_
      refine' ReadyL.cons ?o17 (fun K hK=>?s17) ReadyL.nil
      case o17=>simp only[zlD,zlF,zlE];rfl
      go_simp
      refine hK.out _ _ (.inl (by decide)) ?_
      clear hK K
      try simp only[Act.put,zlA,zlB,zlC]
      refine zg (by kernel_rfl) ?_ _
      go_wp2_with fail
      refine bodyPost_ret (results_none rfl _ _ _) rfl ?_
      exact⟨rfl,some ⟨gK,0,none⟩,kc',HF7.out,HB7.out⟩
    refine' ReadyL.cons ?o18 (fun K hK=>?s18) ReadyL.nil
    case o18=>simp only[zlD,zlF,zlE];rfl
    go_simp
    refine hK.out _ _ (.inl (by decide)) ?_
    clear hK K
    try simp only[Act.put,zlA,zlB,zlC]
    refine za (rs:=[9,12]) (by kernel_rfl) (by simp) ?_
    refine' ReadyL.cons ?o19 (fun K hK=>?s19) ?m19
    case o19=>simp only[zlD,zlF,zlE];rfl
    case s19=>
      go_simp
      refine hK.out _ _ (.inl (by decide)) ?_
      clear hK K
      try simp only[Act.put,zlA,zlB,zlC]
      refine za (rs:=[12]) (by kernel_rfl) (by simp) ?_
      refine' ReadyL.cons ?o20 (fun K hK=>?s20) ReadyL.nil
      case o20=>simp only[zlD,zlF,zlE];rfl
      go_simp
      refine hK.out _ _ (.inl (by decide)) ?_
      clear hK K
      try simp only[Act.put,zlA,zlB,zlC]
      refine zg (by kernel_rfl) ?_ _
      go_wp2_with fail
      refine bodyPost_ret (results_none rfl _ _ _) rfl ?_
      exact⟨rfl,some ⟨gK,0,none⟩,kc',HF7.out,HB7.out⟩
    refine' ReadyL.cons ?o21 (fun K hK=>?s21) ReadyL.nil
    case o21=>simp only[zlD,zlF,zlE];rfl
    go_simp
    refine hK.out _ _ (.inl (by decide)) ?_
    clear hK K
    try simp only[Act.put,zlA,zlB,zlC]
    refine za (rs:=[9]) (by kernel_rfl) (by simp) ?_
    refine' ReadyL.cons ?o22 (fun K hK=>?s22) ReadyL.nil
    case o22=>simp only[zlD,zlF,zlE];rfl
    go_simp
    refine hK.out _ _ (.inl (by decide)) ?_
    clear hK K
    try simp only[Act.put,zlA,zlB,zlC]
    refine zg (by kernel_rfl) ?_ _
    go_wp2_with fail
    refine bodyPost_ret (results_none rfl _ _ _) rfl ?_
    exact⟨rfl,some ⟨gK,0,none⟩,kc',by have h9:=HF7.out;rw[<-HCM.out]at h9;exact h9,by have h9:=HB7.out;rw[<-HCM.out]at h9;exact h9⟩
  refine' ReadyL.cons ?o23 (fun K hK=>?s23) ReadyL.nil
  case o23=>simp only[zlD,zlF,zlE];rfl
  go_simp
  refine hK.out _ _ (.inl (by decide)) ?_
  clear hK K
  try simp only[Act.put,zlA,zlB,zlC]
  refine za (rs:=[8,11]) (by kernel_rfl) (by simp) ?_
  refine' ReadyL.cons ?o24 (fun K hK=>?s24) ?m24
  case o24=>simp only[zlD,zlF,zlE];rfl
  case s24=>
    go_simp
    refine hK.out _ _ (.inl (by decide)) ?_
    clear hK K
    try simp only[Act.put,zlA,zlB,zlC]
    refine za (rs:=[9,11]) (by kernel_rfl) (by simp) ?_
    refine' ReadyL.cons ?o25 (fun K hK=>?s25) ?m25
    case o25=>simp only[zlD,zlF,zlE];rfl
    case s25=>
      go_simp
      refine hK.out _ _ (.inl (by decide)) ?_
      clear hK K
      try simp only[Act.put,zlA,zlB,zlC]
      refine za (rs:=[11]) (by kernel_rfl) (by simp) ?_
      refine' ReadyL.cons ?o26 (fun K hK=>?s26) ReadyL.nil
      case o26=>simp only[zlD,zlF,zlE];rfl
      go_simp
      refine hK.out _ _ (.inl (by decide)) ?_
      clear hK K
      try simp only[Act.put,zlA,zlB,zlC]
      refine za (rs:=[12]) (by kernel_rfl) (by simp) ?_
      refine' ReadyL.cons ?o27 (fun K hK=>?s27) ReadyL.nil
      case o27=>simp only[zlD,zlF,zlE];rfl
      go_simp
      refine hK.out _ _ (.inl (by decide)) ?_
      clear hK K
      try simp only[Act.put,zlA,zlB,zlC]
      refine zg (by kernel_rfl) ?_ _
      go_wp2_with fail
      refine bodyPost_ret (results_none rfl _ _ _) rfl ?_
      exact⟨rfl,some ⟨gK,0,none⟩,kc',HF7.out,HB7.out⟩
    refine' ReadyL.cons ?o28 (fun K hK=>?s28) ReadyL.nil
    case o28=>simp only[zlD,zlF,zlE];rfl
    go_simp
    refine hK.out _ _ (.inl (by decide)) ?_
    clear hK K
    try simp only[Act.put,zlA,zlB,zlC]
    refine za (rs:=[9,12]) (by kernel_rfl) (by simp) ?_
    refine' ReadyL.cons ?o29 (fun K hK=>?s29) ?m29
    case o29=>simp only[zlD,zlF,zlE];rfl
    case s29=>
      go_simp
      refine hK.out _ _ (.inl (by decide)) ?_
      clear hK K
      try simp only[Act.put,zlA,zlB,zlC]
      refine za (rs:=[12]) (by kernel_rfl) (by simp) ?_
      refine' ReadyL.cons ?o30 (fun K hK=>?s30) ReadyL.nil
      case o30=>simp only[zlD,zlF,zlE];rfl
      go_simp
      refine hK.out _ _ (.inl (by decide)) ?_
      clear hK K
      try simp only[Act.put,zlA,zlB,zlC]
      refine zg (by kernel_rfl) ?_ _
      go_wp2_with fail
      refine bodyPost_ret (results_none rfl _ _ _) rfl ?_
      exact⟨rfl,some ⟨gK,0,none⟩,kc',HF7.out,HB7.out⟩
    refine' ReadyL.cons ?o31 (fun K hK=>?s31) ReadyL.nil
    case o31=>simp only[zlD,zlF,zlE];rfl
    go_simp
    refine hK.out _ _ (.inl (by decide)) ?_
    clear hK K
    try simp only[Act.put,zlA,zlB,zlC]
    refine za (rs:=[9]) (by kernel_rfl) (by simp) ?_
    refine' ReadyL.cons ?o32 (fun K hK=>?s32) ReadyL.nil
    case o32=>simp only[zlD,zlF,zlE];rfl
    go_simp
    refine hK.out _ _ (.inl (by decide)) ?_
    clear hK K
    try simp only[Act.put,zlA,zlB,zlC]
    refine zg (by kernel_rfl) ?_ _
    go_wp2_with fail
    refine bodyPost_ret (results_none rfl _ _ _) rfl ?_
    exact⟨rfl,some ⟨gK,0,none⟩,kc',by have h9:=HF7.out;rw[<-HCM.out]at h9;exact h9,by have h9:=HB7.out;rw[<-HCM.out]at h9;exact h9⟩
  refine' ReadyL.cons ?o33 (fun K hK=>?s33) ReadyL.nil
  case o33=>simp only[zlD,zlF,zlE];rfl
  go_simp
  refine hK.out _ _ (.inl (by decide)) ?_
  clear hK K
  try simp only[Act.put,zlA,zlB,zlC]
  refine za (rs:=[8,12]) (by kernel_rfl) (by simp) ?_
  refine' ReadyL.cons ?o34 (fun K hK=>?s34) ?m34
  case o34=>simp only[zlD,zlF,zlE];rfl
  case s34=>
    go_simp
    refine hK.out _ _ (.inl (by decide)) ?_
    clear hK K
    try simp only[Act.put,zlA,zlB,zlC]
    refine za (rs:=[9,12]) (by kernel_rfl) (by simp) ?_
    refine' ReadyL.cons ?o35 (fun K hK=>?s35) ?m35
    case o35=>simp only[zlD,zlF,zlE];rfl
    case s35=>
      go_simp
      refine hK.out _ _ (.inl (by decide)) ?_
      clear hK K
      try simp only[Act.put,zlA,zlB,zlC]
      refine za (rs:=[12]) (by kernel_rfl) (by simp) ?_
      refine' ReadyL.cons ?o36 (fun K hK=>?s36) ReadyL.nil
      case o36=>simp only[zlD,zlF,zlE];rfl
      go_simp
      refine hK.out _ _ (.inl (by decide)) ?_
      clear hK K
      try simp only[Act.put,zlA,zlB,zlC]
      refine zg (by kernel_rfl) ?_ _
      go_wp2_with fail
      refine bodyPost_ret (results_none rfl _ _ _) rfl ?_
      exact⟨rfl,some ⟨gK,0,none⟩,kc',HF7.out,HB7.out⟩
    refine' ReadyL.cons ?o37 (fun K hK=>?s37) ReadyL.nil
    case o37=>simp only[zlD,zlF,zlE];rfl
    go_simp
    refine hK.out _ _ (.inl (by decide)) ?_
    clear hK K
    try simp only[Act.put,zlA,zlB,zlC]
    refine za (rs:=[9]) (by kernel_rfl) (by simp) ?_
    refine' ReadyL.cons ?o38 (fun K hK=>?s38) ReadyL.nil
    case o38=>simp only[zlD,zlF,zlE];rfl
    go_simp
    refine hK.out _ _ (.inl (by decide)) ?_
    clear hK K
    try simp only[Act.put,zlA,zlB,zlC]
    refine zg (by kernel_rfl) ?_ _
    go_wp2_with fail
    refine bodyPost_ret (results_none rfl _ _ _) rfl ?_
    exact⟨rfl,some ⟨gK,0,none⟩,kc',by have h9:=HF7.out;rw[<-HCM.out]at h9;exact h9,by have h9:=HB7.out;rw[<-HCM.out]at h9;exact h9⟩
  refine' ReadyL.cons ?o39 (fun K hK=>?s39) ReadyL.nil
  case o39=>simp only[zlD,zlF,zlE];rfl
  go_simp
  refine hK.out _ _ (.inl (by decide)) ?_
  clear hK K
  try simp only[Act.put,zlA,zlB,zlC]
  refine za (rs:=[8]) (by kernel_rfl) (by simp) ?_
  refine' ReadyL.cons ?o40 (fun K hK=>?s40) ReadyL.nil
  case o40=>simp only[zlD,zlF,zlE];rfl
  go_simp
  refine hK.out _ _ (.inl (by decide)) ?_
  clear hK K
  try simp only[Act.put,zlA,zlB,zlC]
  refine za (rs:=[9]) (by kernel_rfl) (by simp) ?_
  refine' ReadyL.cons ?o41 (fun K hK=>?s41) ReadyL.nil
  case o41=>simp only[zlD,zlF,zlE];rfl
  go_simp
  refine hK.out _ _ (.inl (by decide)) ?_
  clear hK K
  try simp only[Act.put,zlA,zlB,zlC]
  refine zg (by kernel_rfl) ?_ _
  go_wp2_with fail
  refine bodyPost_ret (results_none rfl _ _ _) rfl ?_
  exact⟨rfl,some ⟨gK,0,none⟩,kc',by have h9:=HF7.out;rw[<-HCM.out]at h9;exact h9,by have h9:=HB7.out;rw[<-HCM.out]at h9;exact h9⟩
theorem zj1{g:Nat}(t1:TT)(w:World)(hnm:t1.tag.s.data.toList=[]) :
    Calls Tryz.prog 103 #[.pointer (some ⟨g,0,none⟩),.agg #[.string t1.tag.s,.slice t1.tag.A t1.tag.n t1.tag.c,.slice t1.A t1.n t1.c,.slice t1.K t1.kn t1.kc,.string t1.text.s,.slice t1.text.A t1.text.n t1.text.c]] w fun e w'=>e=.returned (.tuple #[])/\Below w.heap.size w w':=by
  have hx:(t1.tag.s.toList == [])=true:=by rw[beq_iff_eq,ByteArray.toList_eq];exact hnm
  have hx2:t1.tag.s.toList=[]:=by rw[ByteArray.toList_eq];exact hnm
  have hb0:Below w.heap.size w (w.alloc (.cells #[.string t1.tag.s,.slice t1.tag.A t1.tag.n t1.tag.c,.slice t1.A t1.n t1.c,.slice t1.K t1.kn t1.kc,.string t1.text.s,.slice t1.text.A t1.text.n t1.text.c] 48)):=(Below.refl _ _).alloc (Nat.le_refl _) _
  clear hnm
  go_enter Tryz.func103,Tryz.ntmps103
  go_wp2_with fail
  refine bodyPost_ret (results_none rfl _ _ _) rfl ?_
  exact⟨rfl,hb0⟩
theorem znI{t:PT}(h:t.tag≠[])(hk:t.kids=[]):zp [t]=[⟨t.tag,zag t.attrs,[],[]⟩]:=by
  have h1:=zc7 [] t
  rw[List.nil_append,zhF h,hk]at h1
  exact h1
theorem zj2{S:Nat->Prop}{base g bm co cl mn:Nat}{Ao Al:Option Addr}{fs ls:List TT}{t:TT}{f:List UInt8->Int}(t1:TT)(w:World)(h:BldM S w base g bm Ao co (fs++ [t]) Al cl ls mn f)(ht:AllS S w [t1])(hkd:t1.kids=[])(hq:t.kn+bkL (chL ls)<=1048576)(hq1:bkL (chL [t1])<=1048576)(hf:fs.length<=1048574)(hmn:mn<=4294967296)(hfn:-4294967296<=f t1.tag.s.data.toList/\f t1.tag.s.data.toList<=4294967296)(hnm:t1.tag.s.data.toList≠[])(hv:zjo t1.tag.s.data.toList=false) :
    Calls Tryz.prog 103 #[.pointer (some ⟨g,0,none⟩),.agg #[.string t1.tag.s,.slice t1.tag.A t1.tag.n t1.tag.c,.slice t1.A t1.n t1.c,.slice t1.K t1.kn t1.kc,.string t1.text.s,.slice t1.text.A t1.text.n t1.text.c]] w fun e w'=>e=.returned (.tuple #[])/\∃ (K':Option Addr) (kc':Nat) (ms:List TT) (Ao':Option Addr) (co':Nat) (tn:TT),BldM S w' base g bm Ao' co' (fs++ [t.withK K' (t.kn+ms.length) kc' (t.kids++ ms)]++ [tn]) Al cl [] (mn+1) (upd f t1.tag.s.data.toList (f t1.tag.s.data.toList+1))/\chL ms=zp (chL ls)/\tn.ch=⟨t1.tag.ch,zag (t1.atts.map AT.ch),[],[]⟩/\Below base w w':=by
  obtain⟨i0,hi,hz0,hz1,hz2⟩:=info_parts zbL
  have HV:=Lib.hid (zeh t1.tag.s)
  rw[hv]at HV
  have hx:(t1.tag.s.toList == [])=false:=by rw[beq_eq_false_iff_ne,ByteArray.toList_eq];exact hnm
  have hx2:t1.tag.s.toList.isEmpty=false:=by
    cases hq:t1.tag.s.toList with
    | nil=>rw[hq]at hx;exact absurd hx (by decide)
    | cons a b=>rfl
  have HNE:Hid (t1.ch.tag≠[]):=fun e=>by
    rw[TT.ch_tag]at e
    have h1:=t1.tag.ch_fst
    rw[e]at h1
    exact hnm h1.symm
  have HKD:Hid (t1.ch.kids=[]):=by show _=_;rw[TT.ch_kids,hkd];rfl
  have H00:=Lib.hid h
  have HA:=Lib.hid ht
  clear h ht hv hnm hkd
  go_enter Tryz.func103,Tryz.ntmps103
  go_wp2_with fail
  generalize hw0:w.alloc (.cells #[.string t1.tag.s,.slice t1.tag.A t1.tag.n t1.tag.c,.slice t1.A t1.n t1.c,.slice t1.K t1.kn t1.kc,.string t1.text.s,.slice t1.text.A t1.text.n t1.text.c] 48)=w0
  have y0:Hid (Whole w0 w.heap.size 48 #[.string t1.tag.s,.slice t1.tag.A t1.tag.n t1.tag.c,.slice t1.A t1.n t1.c,.slice t1.K t1.kn t1.kc,.string t1.text.s,.slice t1.text.A t1.text.n t1.text.c]):=by rw[<-hw0];exact Whole.made _ _ _
  have hb0:Below w.heap.size w w0:=by rw[<-hw0];exact(Below.refl _ _).alloc (Nat.le_refl _) _
  have H0:=Lib.hid (H00.out.below hb0)
  have HA0:Hid (AllS S w0 [t1]):=HA.out.keep (Stays.of hb0)
  have HB0:Hid (Below base w w0):=hb0.mono H00.out.bw
  have heb:=y0.out.lt
  have hbe:base<=w.heap.size:=H00.out.bw
  have HEB:Hid (∀ b,Live base g bm Ao Al (fs++ [t]) b->b≠w.heap.size):=fun b hlv=>by
    rcases hlv with e | e | e | e | ⟨x,hx,e⟩ | e
    . have:=H00.out.box.lt;omega
    . have:=H00.out.map.lt;omega
    . have:=(H00.out.opn.lt b (by rw[zm];exact e)).2;omega
    . have:=(H00.out.loo.lt b (by rw[zm];exact e)).2;omega
    . have:=((H00.out.kid x hx).lt b (by rw[zm];exact e)).2;omega
    . have:=H00.out.bw;omega
  have HEBO:Hid (∀ b,blkA Ao=some b->b=w.heap.size->False):=fun b e e2=>by have:=(H00.out.opn.lt b (by rw[zm];exact e)).2;omega
  generalize hebb:w.heap.size=eb at *
  clear hw0 hb0
  refine(HV.out w0).mono ?_
  rintro e wy ⟨rfl,rfl⟩
  have HSET:=Lib.hid (zdo w0 H0.out (by omega) (by omega) (by omega))
  go_wp2_with fail
  refine HSET.out.mono ?_
  rintro e w1 ⟨rfl,K1,kc1,ms,hM1,hqm,hb1,hst1⟩
  have H1:=Lib.hid hM1
  have HQM:=Lib.hid hqm
  have HB1:Hid (Below base w w1):=HB0.out.trans hb1
  have y1:Whole w1 eb 48 #[.string t1.tag.s,.slice t1.tag.A t1.tag.n t1.tag.c,.slice t1.A t1.n t1.c,.slice t1.K t1.kn t1.kc,.string t1.text.s,.slice t1.text.A t1.text.n t1.text.c]:=y0.out.same (hst1 eb heb fun hlv=>HEB.out eb hlv rfl)
  have HA1:Hid (AllS S w1 [t1]):=HA0.out.keep ⟨hb1.size,fun b hb _=>hb1.block b (H0.out.inp b hb)⟩
  have HY1:=Lib.hid y1
  clear hM1 hqm hb1 hst1 y1 HSET HEB H0 H00 HA HA0 HB0 y0 HV
  generalize hfr:fs++ [t.withK K1 (t.kn+ms.length) kc1 (t.kids++ ms)]=fr at *
  have HFR:=Lib.hid hfr
  have hN:fr.length=fs.length+1:=by rw[<-hfr,List.length_append];rfl
  clear hfr
  obtain⟨N,hNN⟩:∃ N,fr.length=N:=⟨_,rfl⟩
  have HN:=Lib.hid hNN
  rw[hNN]at hN
  have hN2:N<=1048576:=by omega
  clear hNN hN
  go_upto_region 6 with fail
  go_cut [] (fun wx=>∃ (Ao':Option Addr) (co':Nat) (tn:TT),BldM S wx base g bm Ao' co' (fr++ [tn]) Al cl [] mn f/\tn.ch=⟨t1.tag.ch,zag (t1.atts.map AT.ch),[],[]⟩/\Below base w wx)
  case first=>
    have c0:=H1.out.at0
    rw[HN.out]at c0
    have hS:w1.drew.cell? ⟨g,0,none⟩=some (.slice Ao N co)/\Whole w1.drew eb 48 #[.string t1.tag.s,.slice t1.tag.A t1.tag.n t1.tag.c,.slice t1.A t1.n t1.c,.slice t1.K t1.kn t1.kc,.string t1.text.s,.slice t1.text.A t1.text.n t1.text.c]:=⟨c0,HY1.out.drew⟩
    clear c0
    refine z8 (S:=(fun V=>V.cell? ⟨g,0,none⟩=some (.slice Ao N co)/\Whole V eb 48 #[.string t1.tag.s,.slice t1.tag.A t1.tag.n t1.tag.c,.slice t1.A t1.n t1.c,.slice t1.K t1.kn t1.kc,.string t1.text.s,.slice t1.text.A t1.text.n t1.text.c])) (Z:=(fun i=>decide (9<=i))) (by kernel_rfl) ?_
    refine' zb (i:=0) ?i42 (by kernel_rfl) (by kernel_rfl) (by kernel_rfl) (by kernel_rfl) ?q42 ?y42 hS ?r42
    case i42=>simp only[zlD,zlE];rfl
    case q42=>exact fun _ _ _ h=>h
    case y42=>
      refine Or.inl ⟨by rfl,?_⟩
      intro wq hq
      try dsimp only at hq
      try obtain⟨hq0,hq1⟩:=hq
      go_simp
      try with_reducible rfl
    try simp only[Act.put,zlA,zlB,zlC]
    refine' zb (i:=1) ?i43 (by kernel_rfl) (by kernel_rfl) (by kernel_rfl) (by kernel_rfl) ?q43 ?y43 hS ?r43
    case i43=>simp only[zlD,zlF,zlE];rfl
    case q43=>exact fun _ _ _ h=>h
    case y43=>
      refine Or.inl ⟨by rfl,?_⟩
      intro wq hq
      try dsimp only at hq
      try obtain⟨hq0,hq1⟩:=hq
      go_simp
      try with_reducible rfl
    try simp only[Act.put,zlA,zlB,zlC]
    refine' zb (i:=2) ?i44 (by kernel_rfl) (by kernel_rfl) (by kernel_rfl) (by kernel_rfl) ?q44 ?y44 hS ?r44
    case i44=>simp only[zlD,zlF,zlE];rfl
    case q44=>exact fun _ _ _ h=>h
    case y44=>
      refine Or.inl ⟨by rfl,?_⟩
      intro wq hq
      try dsimp only at hq
      try obtain⟨hq0,hq1⟩:=hq
      go_simp
      try with_reducible rfl
    try simp only[Act.put,zlA,zlB,zlC]
    refine' zb (i:=3) ?i45 (by kernel_rfl) (by kernel_rfl) (by kernel_rfl) (by kernel_rfl) ?q45 ?y45 hS ?r45
    case i45=>simp only[zlD,zlF,zlE];rfl
    case q45=>exact fun _ _ _ h=>h
    case y45=>
      refine Or.inl ⟨by rfl,?_⟩
      intro wq hq
      try dsimp only at hq
      try obtain⟨hq0,hq1⟩:=hq
      go_simp
      try with_reducible rfl
    try simp only[Act.put,zlA,zlB,zlC]
    refine' zb (i:=4) ?i46 (by kernel_rfl) (by kernel_rfl) (by kernel_rfl) (by kernel_rfl) ?q46 ?y46 hS ?r46
    case i46=>simp only[zlD,zlF,zlE];rfl
    case q46=>exact fun _ _ _ h=>h
    case y46=>
      refine Or.inl ⟨by rfl,?_⟩
      intro wq hq
      try dsimp only at hq
      try obtain⟨hq0,hq1⟩:=hq
      go_simp
      try with_reducible rfl
    try simp only[Act.put,zlA,zlB,zlC]
    refine' zb (i:=5) ?i47 (by kernel_rfl) (by kernel_rfl) (by kernel_rfl) (by kernel_rfl) ?q47 ?y47 hS ?r47
    case i47=>simp only[zlD,zlF,zlE];rfl
    case q47=>exact fun _ _ _ h=>h
    case y47=>
      refine Or.inl ⟨by rfl,?_⟩
      intro wq hq
      try dsimp only at hq
      try obtain⟨hq0,hq1⟩:=hq
      have hr0:=hq1.at_ 0
      have hr1:=hq1.at_ 1
      have hr2:=hq1.at_ 2
      have hr3:=hq1.at_ 3
      have hr4:=hq1.at_ 4
      have hr5:=hq1.at_ 5
      have hr6:=hq1.at_ 6
      go_simp
      try with_reducible rfl
    try simp only[Act.put,zlA,zlB,zlC]
    refine za (rs:=[6]) (by kernel_rfl) (by simp) ?_
    refine' ReadyL.cons ?o48 (fun K hK=>?s48) ReadyL.nil
    case o48=>simp only[zlD,zlF,zlE];rfl
    go_simp
    have hba:Below w1.heap.size w1 (w1.drew.alloc (.cells (zj t1).toArray 48)):=(Below.drew (Below.refl w1.heap.size w1)).alloc (Nat.le_refl _) _
    have H2:=Lib.hid (H1.out.below hba)
    have HA2:Hid (AllS S (w1.drew.alloc (.cells (zj t1).toArray 48)) [t1]):=HA1.out.keep (Stays.of hba)
    have HB2:Hid (Below base w (w1.drew.alloc (.cells (zj t1).toArray 48))):=HB1.out.trans (hba.mono H1.out.bw)
    have hS2:=hS.2.alloc (.cells (zj t1).toArray 48)
    have HLI:Hid (Lies (w1.drew.alloc (.cells (zj t1).toArray 48)) (w1.drew.alloc (.cells (zj t1).toArray 48)).heap.size (some ⟨w1.heap.size,0,none⟩) (ze [t1])):=za0 (Whole.made w1.drew _ _) (by show zj t1=zj t1++ [];rw[List.append_nil])
    have c2:=H2.out.at0
    rw[HN.out]at c2
    refine hK.out _ _ (.inr ⟨c2,hS2⟩) ?_
    clear hK K hba hS
    try simp only[Act.put,zlA,zlB,zlC]
    refine za (rs:=[7]) (by kernel_rfl) (by simp) ?_
    refine' ReadyL.cons ?o49 (fun K hK=>?s49) ReadyL.nil
    case o49=>simp only[zlD,zlF,zlE];rfl
    go_simp
    refine(zc0 (some ⟨w1.heap.size,0,none⟩) 1 1 [t1] _ ⟨HLI.out.inS (Nat.le_refl _),HA2.out.mono (fun b _ hl=>hl),rfl,hq1⟩).mono ?_
    rintro e w3 ⟨A3,c3,us,rfl,ho3,hm3,⟨hq3,hz3,_⟩,hb3⟩
    have hme:=znI HNE.out HKD.out
    rw[show chL [t1]=[t1.ch]from rfl,hme]at hq3
    obtain⟨tn,rfl⟩:∃ tn,us=[tn]:=by
      have h1:=congrArg List.length hq3
      rw[zv]at h1
      exact List.length_eq_one_iff.1 h1
    have hch:tn.ch=⟨t1.tag.ch,zag (t1.atts.map AT.ch),[],[]⟩:=by
      have h1:[tn.ch]=[⟨t1.ch.tag,zag t1.ch.attrs,[],[]⟩]:=hq3
      injection h1 with h1
      rw[h1,TT.ch_tag,TT.ch_attrs]
    have hkn:tn.kids=[]:=by
      have h1:=congrArg PT.kids hch
      rw[TT.ch_kids]at h1
      have h2:=congrArg List.length h1
      rw[zv]at h2
      exact List.length_eq_zero_iff.1 h2
    have hin:=hm3.get (List.mem_singleton.2 rfl)
    obtain⟨hK0,hkc0⟩:=hz3 tn (List.mem_singleton.2 rfl) hkn
    have hkn0:tn.kn=0:=by rw[<-hin.kn,hkn];rfl
    have H3:=Lib.hid (H2.out.below hb3)
    have HB3:Hid (Below base w w3):=HB2.out.trans (hb3.mono H2.out.bw)
    have hlive:∀ b,(w1.drew.alloc (.cells (zj t1).toArray 48)).heap.size<=b->¬ Live base g bm Ao Al fr b:=fun b hb hlv=>by
      rcases hlv with e | e | e | e | ⟨x,hx,e⟩ | e
      . have:=H2.out.box.lt;omega
      . have:=H2.out.map.lt;omega
      . have:=(H2.out.opn.lt b (by rw[zm];exact e)).2;omega
      . have:=(H2.out.loo.lt b (by rw[zm];exact e)).2;omega
      . have:=((H2.out.kid x hx).lt b (by rw[zm];exact e)).2;omega
      . have:=H2.out.bw;omega
    have HH3:Hid (tn.headS (fun b=>¬ Live base g bm Ao Al fr b) w3):=⟨hin.tag.mono (fun b hb _=>hlive b hb),hin.text.mono (fun b hb _=>hlive b hb),by have:=congrArg PT.text hch;rw[TT.ch_text]at this;exact this,hin.att.mono (fun b hb _=>hlive b hb),hin.an,hin.ac,hin.am,fun a ha=>(hin.atts a ha).mono (fun b hb _=>hlive b hb)⟩
    have HO3:=Lib.hid ho3
    have hA3:A3=none->c3=0:=by
      obtain⟨_,_,ev,hA,_⟩:=zh ho3
      injection ev with e1 e2 e3
      subst e1 e3
      exact hA
    have c3':=H3.out.at0
    rw[HN.out]at c3'
    have y3:=hS2.below hb3 hS2.lt
    refine hK.out _ _ (.inr ⟨c3',y3⟩) ?_
    clear hK K hb3 ho3 hm3 hq3 hz3 hme hin hlive hS2 c2
    have HTC:=Lib.hid hch
    clear hch
    try simp only[Act.put,zlA,zlB,zlC]
    refine za (rs:=[8]) (by kernel_rfl) (by simp) ?_
    refine' ReadyL.cons ?o50 (fun K hK=>?s50) ReadyL.nil
    case o50=>simp only[zlD,zlF,zlE];rfl
    have hopn:=H3.out.opn
    rw[HN.out]at hopn
    refine zA _ (by rfl) (.tmp 29) (.tmp 32) 27 (by rfl) base 48 i0 _ 6 128 Tryz.underlying27 hi hz0 hz1 hz2 rfl (by omega) (.slice Ao N co) N _ (by rfl) hopn _ A3 1 c3 (ze [tn]) (by rfl) hA3 (zac [tn]) (Lies.own HO3.out) (zcS [tn]) (by simp only[maxLen];omega) (by omega) H3.out.bw ?_
    intro v2 w7 hown7 hgr7 hbl7
    obtain⟨Ao',co',rfl,_,_,_⟩:=zh hown7
    rw[zm]at hgr7
    rw[zm,zm]at hbl7
    have hto:ze [tn]=zj tn:=by show zj tn++ []=_;rw[List.append_nil]
    rw[hto,<-HN.out]at hown7
    have HF7:=Lib.hid (H3.out.pushOpen HH3.out hkn hK0 hkn0 hkc0 hgr7 hbl7 hown7)
    have hbg:Whole w7 g 58 #[.slice Ao fr.length co,.slice Al ([]:List TT).length cl,.map (some bm)]:=H3.out.box.grown hgr7 (fun e=>(H3.out.notg H3.out.opn e.symm).1 rfl)
    have HB7:Hid (Below base w (w7.setCell ⟨g,0,none⟩ (.slice Ao' (fr.length+1) co'))):=by
      have h2:Below base w3 w7:=(Below.refl base _).grown hgr7 H3.out.bw (fun k hk=>(H3.out.opn.lt k (by rw[zm];exact hk)).1)
      exact(HB3.out.trans h2).setCell H3.out.gb.1 _
    have q0:w7.cell? ⟨g,0,none⟩=some (.slice Ao N co):=by rw[<-HN.out];exact hbg.at_ 0
    have qf0:w7.frozen? ⟨g,0,none⟩=false:=hbg.free 0
    have heb7:some eb≠blkA Ao:=fun e=>by
      exact HEBO.out eb e.symm rfl
    have y7:Whole w7 eb 48 #[.string t1.tag.s,.slice t1.tag.A t1.tag.n t1.tag.c,.slice t1.A t1.n t1.c,.slice t1.K t1.kn t1.kc,.string t1.text.s,.slice t1.text.A t1.text.n t1.text.c]:=y3.grown hgr7 heb7
    refine hK.out _ _ (.inr ⟨q0,y7⟩) ?_
    rw[HN.out]at HF7 HB7
    clear hK K hown7 hgr7 hbl7 hbg y7 hto hopn y3 c3'
    try simp only[Act.put,zlA,zlB,zlC]
    refine za (rs:=[9]) (by kernel_rfl) (by simp) ?_
    refine' ReadyL.cons ?o51 (fun K hK=>?s51) ReadyL.nil
    case o51=>simp only[zlD,zlF,zlE];rfl
    go_simp
    refine hK.out _ _ (.inl (by decide)) ?_
    clear hK K
    try simp only[Act.put,zlA,zlB,zlC]
    refine za (rs:=[10]) (by kernel_rfl) (by simp) ?_
    refine' ReadyL.cons ?o52 (fun K hK=>?s52) ReadyL.nil
    case o52=>simp only[zlD,zlF,zlE];rfl
    go_simp
    refine hK.out _ _ (.inl (by decide)) ?_
    clear hK K
    try simp only[Act.put,zlA,zlB,zlC]
    refine za (rs:=[11]) (by kernel_rfl) (by simp) ?_
    refine' ReadyL.cons ?o53 (fun K hK=>?s53) ReadyL.nil
    case o53=>simp only[zlD,zlF,zlE];rfl
    go_simp
    refine hK.out _ _ (.inl (by decide)) ?_
    clear hK K
    try simp only[Act.put]
    refine zg (by kernel_rfl) ?_ _
    go_wp2_with fail
    go_meet
    exact⟨Ao',co',tn,HF7.out,HTC.out,HB7.out⟩
  case rest=>
    obtain⟨Ao',co',tn,hM5,hch,hb5⟩:=hcut
    have H5:=Lib.hid hM5
    have HCH:=Lib.hid hch
    have HB5:=Lib.hid hb5
    have c2:=hM5.at2
    have hgb:=hM5.gb
    have hkey:keyOf Tryz.prog 9 (.string t1.tag.s)=some (.string t1.tag.s.data.toList):=by
      have:=((HA1.out.get (List.mem_singleton.2 rfl)).tag.ok).2.2.2
      exact WideMaps.keyOf_string_mk Tryz.underlying9 (by simp only[maxLen];omega)
    obtain⟨x,hx0⟩:∃ x,f t1.tag.s.data.toList=x:=⟨_,rfl⟩
    have HX:=Lib.hid hx0
    rw[hx0]at hfn
    have hw1:IntKind.i64.wrap (x+1)=x+1:=IntWalk.i64_in _ (by omega)
    obtain⟨D,hown,hD⟩:=hM5.map
    clear hM5 hch hb5 hx0 H1 HA1 HY1 HB1 hx hx2
    go_wp2_with (first
      | (at_lookup;refine wpList_lookup_own_int _ rfl _ _ 56 rfl 9 3 .i64 zcV Tryz.underlying56 Tryz.underlying3 (zjs _) bm mn D rfl hown _ _ rfl hkey ?_;intro c hat hwc;have hce:=(hD t1.tag.s.data.toList).symm.trans hat;injection hce with hce;injection hce with _ hce;rw[HX.out]at hce;subst hce;clear hat)
      | (at_mapUpdate;refine wpList_mapUpdate_own _ rfl _ _ _ 56 rfl 9 3 zcV Tryz.underlying56 _ bm mn D rfl hown (by simp only[maxLen];omega) _ _ _ rfl rfl hkey _ [] (plainElem_int Tryz.underlying3 (WalkArith.wf_i64 (by omega))) ?_;intro w7 hown7 hgr7)
      | fail)
    have hM7:=MapF.put hown hD hown7
    go_end0
    refine⟨rfl,K1,kc1,ms,Ao',co',tn,?_,HQM.out,HCH.out,?_⟩
    . have h9:=H5.out.count hgr7 hM7
      rw[<-HFR.out,List.append_assoc]at h9
      rw[HX.out]
      exact h9
    . exact HB5.out.trans ((Below.refl base wc).grown hgr7 H5.out.bw (fun k hk=>by injection hk with hk;have:=hgb.2;omega))
def bkB(s:BS):Nat:=s.top.bk+bkL s.anc+bkL s.loose
theorem zfn(top:PT)(loose:List PT):(zam top loose).bk<=top.bk+bkL loose:=by
  have h1:=zbY loose
  rw[PT.bk_eq,PT.bk_eq top]
  show top.tag.length+top.attrs.length+([]:Ch).length+1+bkL (top.kids++ zp loose)<=_
  rw[zN,List.length_nil]
  omega
theorem zl3(a t:PT):(zbB a t).bk<=a.bk+t.bk:=by
  rw[PT.bk_eq,PT.bk_eq a]
  show a.tag.length+a.attrs.length+([]:Ch).length+1+bkL (a.kids++ [t])<=_
  rw[zN,zaT,List.length_nil]
  omega
theorem zdQ(t:PT)(ts:List PT):bkL (t::ts)=t.bk+bkL ts:=by rw[bkL]
theorem zdq:bkL ([]:List PT)=0:=by rw[bkL]
theorem znJ(n:Ch)(a:List PA):(PT.mk n a [] []).bk=n.length+a.length+1:=by rw[PT.bk_eq];show n.length+a.length+([]:Ch).length+1+bkL []=_;rw[zdq,List.length_nil]
theorem tx_bk(c:Ch):(txT c).bk=c.length+1:=by rw[PT.bk_eq];show([]:Ch).length+([]:List PA).length+c.length+1+bkL []=_;rw[zdq,List.length_nil,List.length_nil];omega
theorem zl4(l:List PT):bkL l.reverse=bkL l:=by
  induction l with
  | nil=>rfl
  | cons a l ih=>rw[List.reverse_cons,zN,zaT,ih,zdQ];omega
theorem zf6(top:PT)(loose:List PT)(a:PT)(anc:List PT):bkB (endB top loose a anc)<=bkB ⟨top,loose,a::anc⟩:=by
  have h1:=zfn top loose
  have h2:=zl3 a (zam top loose)
  show(zbB a (zam top loose)).bk+bkL anc+bkL []<=top.bk+bkL (a::anc)+bkL loose
  rw[zdQ,zdq]
  omega
theorem znK(l:List PA):(zag l).length<=l.length:=by
  unfold zag sel
  exact zd9 _ _ _
theorem zl5(x:Nm):∀ (anc:List PT) (top:PT) (loose:List PT),bkB (zba x top loose anc)<=bkB ⟨top,loose,anc⟩:=by
  intro anc
  induction anc with
  | nil=>intro top loose;exact Nat.le_refl _
  | cons a anc ih=>
    intro top loose
    have h1:=zf6 top loose a anc
    by_cases h:nmT top=x
    . rw[zed h];exact h1
    . rw[ze0 h];exact Nat.le_trans (ih _ _) h1
theorem znL(s:BS)(t:KP):bkB (zbo s t)<=bkB s+t.bk:=by
  unfold zbo
  split
  . split
    . omega
    . split
      . show s.top.bk+bkL s.anc+bkL (s.loose++ [⟨t.name,t.attrs,[],[]⟩])<=s.top.bk+bkL s.anc+bkL s.loose+(t.name.length+t.attrs.length+t.text.length+1)
        rw[zN,zaT,znJ]
        omega
      . have h1:=zfn s.top s.loose
        have h2:=znK t.attrs
        show(PT.mk t.name (zag t.attrs) [] []).bk+bkL (zam s.top s.loose::s.anc)+bkL []<=s.top.bk+bkL s.anc+bkL s.loose+(t.name.length+t.attrs.length+t.text.length+1)
        rw[zdQ,znJ,zdq]
        omega
  . split
    . split
      . have:=zl5 t.nm s.anc s.top s.loose
        exact Nat.le_trans this (Nat.le_add_right _ _)
      . omega
    . split
      . show s.top.bk+bkL s.anc+bkL (s.loose++ [txT t.text])<=s.top.bk+bkL s.anc+bkL s.loose+(t.name.length+t.attrs.length+t.text.length+1)
        rw[zN,zaT,tx_bk]
        omega
      . omega
def BldR(S:Nat->Prop)(w:World)(base g bm mn:Nat)(s:BS):Prop:=
  ∃ (Ao:Option Addr) (co:Nat) (fr:List TT) (Al:Option Addr) (cl:Nat) (ls:List TT) (f:List UInt8->Int),BldM S w base g bm Ao co fr Al cl ls mn f/\chL fr=s.anc.reverse++ [s.top]/\chL ls=s.loose/\∀ x,f x=(s.names.count x:Int)
theorem BldR.below{S:Nat->Prop}{w w':World}{base g bm mn:Nat}{s:BS}(h:BldR S w base g bm mn s)(hb:Below w.heap.size w w'):BldR S w' base g bm mn s:=by
  obtain⟨Ao,co,fr,Al,cl,ls,f,h1,h2⟩:=h
  exact⟨Ao,co,fr,Al,cl,ls,f,h1.below hb,h2⟩
theorem zbR{fr:List TT}{l:List PT}{x:PT}(h:chL fr=l++ [x]):∃ fs t,fr=fs++ [t]/\chL fs=l/\t.ch=x:=by
  rcases zeX fr with rfl | ⟨fs,t,rfl⟩
  . have:=congrArg List.length h
    rw[chL,List.length_append]at this
    have h2:[x].length=1:=rfl
    simp only[List.length_nil]at this
    omega
  . rw[zn]at h
    have h1:=List.append_inj' h rfl
    refine⟨fs,t,rfl,h1.1,?_⟩
    have h2:[t.ch]=[x]:=h1.2
    injection h2
theorem znM{S:Nat->Prop}{w:World}{base g bm co cl mn:Nat}{Ao Al:Option Addr}{fr ls:List TT}{f:List UInt8->Int}(h:BldM S w base g bm Ao co fr Al cl ls mn f){x:TT}(hx:x∈fr):x.kn < x.ch.bk:=by
  have h1:=zau (chL x.kids)
  rw[zv,h.kln hx]at h1
  rw[PT.bk_eq,TT.ch_kids]
  omega
theorem zdr(l:List Nm)(y x:Nm):((l++ [y]).count x:Int)=(l.count x:Int)+(if y=x then 1 else 0):=by
  rw[List.count_append,List.count_singleton]
  by_cases h:y=x
  . simp [h]
  . simp [h]
def openN(g:Nat)(w:World):Nat:=match w.cell? ⟨g,0,none⟩ with
  | some (.slice _ n _)=>n
  | _=>0
theorem BldR.openN{S:Nat->Prop}{w:World}{base g bm mn:Nat}{s:BS}(h:BldR S w base g bm mn s):openN g w=s.anc.length+1:=by
  obtain⟨Ao,co,fr,Al,cl,ls,f,h1,h2,_⟩:=h
  unfold mk.openN
  rw[h1.at0]
  have:=congrArg List.length h2
  rw[zv,List.length_append,List.length_reverse]at this
  exact this
theorem zpY{S:Nat->Prop}{base g bm mn:Nat}{top a:PT}{loose anc:List PT}(w:World)(h:BldR S w base g bm mn ⟨top,loose,a::anc⟩)(hb:bkB ⟨top,loose,a::anc⟩<=1048576)(hmn:mn<=4294967296) :
    Calls Tryz.prog 31 #[.pointer (some ⟨g,0,none⟩)] w fun e w'=>e=.returned (.tuple #[])/\BldR S w' base g bm (mn+1) (endB top loose a anc)/\Below base w w':=by
  obtain⟨Ao,co,fr,Al,cl,ls,f,hM,hfr,hls,hf⟩:=h
  obtain⟨fs1,t,rfl,hfs1,ht⟩:=zbR hfr
  rw[List.reverse_cons]at hfs1
  obtain⟨fs,a1,rfl,hfs,ha⟩:=zbR hfs1
  have k1:=znM hM (x:=t) (by simp)
  have k2:=znM hM (x:=a1) (by simp)
  have hlen:fs.length<=bkL anc:=by
    have h1:=zau (chL fs)
    rw[zv,hfs,zl4]at h1
    exact h1
  have hls':chL ls=loose:=hls
  have hb:top.bk+bkL (a::anc)+bkL loose<=1048576:=hb
  rw[zdQ]at hb
  have ht:t.ch=top:=ht
  rw[ht]at k1
  rw[ha]at k2
  have hnm:t.tag.bs=nmT top:=by
    unfold nmT
    rw[<-ht,TT.ch_tag,LT.ch_fst]
  have hcnt:=hf t.tag.bs
  have hcl:(BS.mk top loose (a::anc)).names.count t.tag.bs<=anc.length+1:=by
    refine Nat.le_trans List.count_le_length ?_
    unfold BS.names
    rw[List.length_map,List.length_tail,List.length_append,List.length_reverse,List.length_cons]
    show anc.length+1+1 - 1<=_
    omega
  have hal:=zau anc
  refine(zjY w hM (by rw[hls'];omega) (by omega) (by omega) hmn (by omega)).mono ?_
  rintro e w' ⟨rfl,K',kc',t',hM',ht',hbw⟩
  refine⟨rfl,⟨Ao,co,_,Al,cl,[],_,hM',?_,rfl,?_⟩,hbw⟩
  . rw[zn,hfs]
    show anc.reverse++ [TT.ch _]=anc.reverse++ [zbB a (zam top loose)]
    congr 2
    rw[TT.ch_eq]
    have hat:=(hM.head a1 (by simp)).blank
    show PT.mk a1.tag.ch (a1.atts.map AT.ch) (chL (a1.kids++ [t'])) a1.text.ch=PT.mk a.tag a.attrs (a.kids++ [zam top loose]) []
    rw[hat,zn,<-ha,TT.ch_tag,TT.ch_attrs,TT.ch_kids]
    show PT.mk _ _ (chL a1.kids++ [t'.ch]) _=_
    rw[ht',ht,hls']
  . intro x
    have hpush:=zc9 (zbB a (zam top loose)) top [] loose a anc rfl
    have h0:=hf x
    rw[hpush,zdr]at h0
    rw[hpush,zdr]at hcnt
    show upd f t.tag.bs (f t.tag.bs - 1) x=((BS.mk (zbB a (zam top loose)) [] anc).names.count x:Int)
    unfold upd
    by_cases hx:x=t.tag.bs
    . rw[if_pos hx,hcnt,hnm,if_pos rfl,hx,hnm]
      omega
    . rw[if_neg hx,h0,if_neg (fun e=>hx (by rw[hnm,e]))]
      omega
end Go.Proofs.YtddgabjhligeeaaGreat.mk
namespace Go.Proofs.YtddgabjhligeeaaGreat.mk
open Go.RowKit Go.Maps
def zf7(S:Nat->Prop)(base g bm mn:Nat)(s:BS)(x:Nm)(w wr:World):Prop:=
  ∃ (s':BS) (mn':Nat),BldR S wr base g bm mn' s'/\mn'+s'.anc.length<=mn+s.anc.length/\x∈s'.names/\zba x s'.top s'.loose s'.anc=zba x s.top s.loose s.anc/\bkB s'<=bkB s/\Below base w wr
def zeA(x:Nm)(s:BS):BS:=if x∈s.names then zba x s.top s.loose s.anc else s
theorem zj3(top:PT)(loose:List PT):(BS.mk top loose []).names=[]:=rfl
theorem zj4(top:PT)(loose:List PT)(a:PT)(anc:List PT):(BS.mk top loose (a::anc)).names=(endB top loose a anc).names++ [nmT top]:=zc9 (zbB a (zam top loose)) top [] loose a anc rfl
theorem zj5{S:Nat->Prop}{base g bm mn:Nat}{s:BS}(x:ByteArray)(w:World)(h:BldR S w base g bm mn s)(hb:bkB s<=1048576)(hmn:mn+s.anc.length<=4294967296)(hxs:x.size<=4294967296) :
    Calls Tryz.prog 104 #[.pointer (some ⟨g,0,none⟩),.string x] w fun e w'=>e=.returned (.tuple #[])/\∃ mn',BldR S w' base g bm mn' (zeA x.data.toList s)/\mn'+(zeA x.data.toList s).anc.length<=mn+s.anc.length/\Below base w w':=by
  obtain⟨Ao,co,fr,Al,cl,ls,f,hM,hfr,hls,hf⟩:=id h
  have c2:=hM.at2
  have hkey:keyOf Tryz.prog 9 (.string x)=some (.string x.data.toList):=WideMaps.keyOf_string_mk Tryz.underlying9 (by simp only[maxLen];omega)
  obtain⟨D,hown,hD⟩:=hM.map
  have HF:=Lib.hid (hf x.data.toList)
  have HR:=Lib.hid h
  clear hM hfr hls hf h
  by_cases hx:x.data.toList∈s.names
  . have hpos:=List.count_pos_iff.2 hx
    have hne:((s.names.count x.data.toList:Int) == 0)=false:=by rw[beq_eq_false_iff_ne];omega
    have HST:Hid (zf7 S base g bm mn s x.data.toList w w):=⟨s,mn,HR.out,Nat.le_refl _,hx,rfl,Nat.le_refl _,Below.refl _ _⟩
    have HIF:Hid ((zeA x.data.toList s)=zba x.data.toList s.top s.loose s.anc):=if_pos hx
    clear hpos
    go_enter Tryz.func104,Tryz.ntmps104
    go_wp2_with (first
      | (at_lookup;refine wpList_lookup_own_int _ rfl _ _ 56 rfl 9 3 .i64 zcV Tryz.underlying56 Tryz.underlying3 (zjs _) bm mn D rfl hown _ _ rfl hkey ?_;intro c hat hwc;have hce:=(hD x.data.toList).symm.trans hat;injection hce with hce;injection hce with _ hce;rw[HF.out]at hce;subst hce;clear hat)
      | fail)
    clear hx hne hown hD c2 hkey
    go_loopw [] (zf7 S base g bm mn s x.data.toList w) (fun wr=>openN g wr)
    case atStart=>exact HST.out
    case round=>
      obtain⟨s',mn',hr,hmm,hxn,hcl,hbk,hbw⟩:=hrel
      obtain⟨top,loose,anc⟩:=s'
      cases anc with
      | nil=>exact absurd hxn (by rw[zj3];simp)
      | cons a anc=>
        have hon:=hr.openN
        obtain⟨Ao',co',fr',Al',cl',ls',f',hM',hfr',hls',hf'⟩:=id hr
        obtain⟨fs,t,rfl,hfs,ht⟩:=zbR hfr'
        obtain⟨bo,hao,hbo,k0,_⟩:=hM'.cellsL
        have hlf:fs.length=anc.length+1:=by
          have:=congrArg List.length hfs
          rw[zv,List.length_reverse,List.length_cons]at this
          exact this
        have hal:anc.length<=1048576:=by
          have h1:=zau (a::anc)
          have h2:bkB ⟨top,loose,a::anc⟩=top.bk+bkL (a::anc)+bkL loose:=rfl
          rw[List.length_cons]at h1
          omega
        have HLA:=Lib.hid (zb3 g bo fs.length (fs++ [t]).length co' wr (by rw[List.length_append];rfl) (by rw[<-hao];exact hM'.at0) (by omega))
        have hnm:t.tag.s.data.toList=nmT top:=by
          have ht:t.ch=top:=ht
          unfold nmT
          rw[<-ht,TT.ch_tag]
          exact(LT.ch_fst t.tag).symm
        have HR':=Lib.hid hr
        have HBW:=Lib.hid hbw
        have HCL:=Lib.hid hcl
        have HXN:=Lib.hid hxn
        have hb':bkB ⟨top,loose,a::anc⟩<=1048576:=Nat.le_trans hbk hb
        have hmm':mn'+(anc.length+1)<=mn+s.anc.length:=hmm
        have hbk1:=zf6 top loose a anc
        have hk0:∀ n,(wr.drewN n).cell? ⟨bo,fs.length * 6,none⟩=some (.string t.tag.s):=fun n=>k0
        have HEND:Hid (∀ n,Calls Tryz.prog 31 #[.pointer (some ⟨g,0,none⟩)] (wr.drewN n) fun e w'=>e=.returned (.tuple #[])/\BldR S w' base g bm (mn'+1) (endB top loose a anc)/\Below base (wr.drewN n) w'):=fun n=>zpY (wr.drewN n) (HR'.out.below ((Below.refl _ _).drewN n)) hb' (by omega)
        clear hM' hfr' hls' hf' hr hbw hcl hxn hfs ht hao hlf
        go_wp2_with fail
        refine HLA.out.mono ?_
        rintro e w1 ⟨rfl,n1,rfl⟩
        have q0:=hk0 n1
        have HE1:=Lib.hid (HEND.out n1)
        have HB1:Hid (Below base w (wr.drewN n1)):=HBW.out.drewN n1
        by_cases he:nmT top=x.data.toList
        . have hx1:(t.tag.s.toList == x.toList)=true:=by rw[beq_iff_eq,ByteArray.toList_eq,ByteArray.toList_eq,hnm];exact he
          have hx2:(t.tag.s.toList != x.toList)=false:=by rw[bne,hx1];rfl
          have HFC:Hid (endB top loose a anc=zba x.data.toList s.top s.loose s.anc):=by
            show _=_
            rw[<-HCL.out]
            exact(zed he).symm
          clear he hk0
          go_wp2_with fail
          refine HE1.out.mono ?_
          rintro e w2 ⟨rfl,hr2,hb2⟩
          have HR2:=Lib.hid hr2
          have HB2:Hid (Below base w w2):=HB1.out.trans hb2
          clear hr2 hb2
          go_wp2_with fail
          go_end0
          refine⟨rfl,mn'+1,by rw[HIF.out,<-HFC.out];exact HR2.out,?_,HB2.out⟩
          rw[HIF.out,<-HFC.out]
          show mn'+1+anc.length<=_
          omega
        . have hx1:(t.tag.s.toList == x.toList)=false:=by rw[beq_eq_false_iff_ne,ByteArray.toList_eq,ByteArray.toList_eq,hnm];exact he
          have hx2:(t.tag.s.toList != x.toList)=true:=by rw[bne,hx1];rfl
          have HREL:Hid (∀ w2,BldR S w2 base g bm (mn'+1) (endB top loose a anc)->Below base w w2->zf7 S base g bm mn s x.data.toList w w2):=fun w2 hr2 hb2=>by
            refine⟨endB top loose a anc,mn'+1,hr2,by show mn'+1+anc.length<=_;omega,?_,?_,Nat.le_trans hbk1 hbk,hb2⟩
            . have h1:=HXN.out
              rw[zj4]at h1
              rcases List.mem_append.1 h1 with h1 | h1
              . exact h1
              . exact absurd (by simpa using h1:x.data.toList=nmT top).symm he
            . rw[<-HCL.out]
              exact(ze0 he).symm
          clear he hk0
          go_wp2_with fail
          refine HE1.out.mono ?_
          rintro e w2 ⟨rfl,hr2,hb2⟩
          have HNX:=Lib.hid (HREL.out w2 hr2 (HB1.out.trans hb2))
          have hon2:=hr2.openN
          clear hr2 hb2
          go_wp2_with fail
          go_roundw
          case rel=>exact HNX.out
          case measure=>
            rw[hon,hon2]
            show anc.length+1 < (a::anc).length+1
            rw[List.length_cons]
            omega
  . have hz:s.names.count x.data.toList=0:=List.count_eq_zero.2 hx
    have HZ:Hid (f x.data.toList=0):=by have:=HF.out;rw[hz]at this;exact this
    have HIF:Hid ((zeA x.data.toList s)=s):=if_neg hx
    clear hz hx
    go_enter Tryz.func104,Tryz.ntmps104
    go_wp2_with (first
      | (at_lookup;refine wpList_lookup_own_int _ rfl _ _ 56 rfl 9 3 .i64 zcV Tryz.underlying56 Tryz.underlying3 (zjs _) bm mn D rfl hown _ _ rfl hkey ?_;intro c hat hwc;have hce:=(hD x.data.toList).symm.trans hat;injection hce with hce;injection hce with _ hce;rw[HZ.out]at hce;subst hce;clear hat)
      | fail)
    refine bodyPost_ret (results_none rfl _ _ _) rfl ?_
    exact⟨rfl,mn,by rw[HIF.out];exact HR.out,by rw[HIF.out];exact Nat.le_refl _,Below.refl _ _⟩
end Go.Proofs.YtddgabjhligeeaaGreat.mk
