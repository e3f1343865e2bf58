import Derived.Test.YtddgabjhligeeaaGreatJnAZ
import Derived.Deep.CutBlock
set_option maxHeartbeats 4000000
set_option maxRecDepth 100000
namespace Go.Proofs.YtddgabjhligeeaaGreat.mk
open Go.RowKit
theorem KT.nm_eq(t:KT):t.ch.nm=t.nm.s.data.toList:=LT.ch_fst t.nm
theorem KT.name_nil(t:KT):t.ch.name=[]↔t.nm.s.data.toList=[]:=by
  rw[<-KT.nm_eq]
  unfold KP.nm
  exact List.map_eq_nil_iff.symm
theorem zpf{S:Nat->Prop}{base g bm mn:Nat}{s:BS}(t:KT)(w:World)(h:BldR S w base g bm mn s)(ht:t.inS S w)(hk:t.ch.kind=1)(hb:bkB s+t.ch.bk<=1048576)(hmn:mn+s.anc.length<=4294967290) :
    Calls Tryz.prog 103 #[.pointer (some ⟨g,0,none⟩),.agg #[.string t.nm.s,.slice t.nm.A t.nm.n t.nm.c,.slice t.A t.n t.c,.slice none 0 0,.string ⟨#[]⟩,.slice none 0 0]] w fun e w'=>e=.returned (.tuple #[])/\∃ mn',BldR S w' base g bm mn' (zbo s t.ch)/\mn'+(zbo s t.ch).anc.length<=mn+s.anc.length+2/\Below base w w':=by
  obtain⟨Ao,co,fr,Al,cl,ls,f,hM,hfr,hls,hf⟩:=id h
  have hbB:bkB s=s.top.bk+bkL s.anc+bkL s.loose:=rfl
  have hll:ls.length<=bkL s.loose:=by
    have h1:=zau (chL ls)
    rw[zv,hls]at h1
    exact h1
  have htb:t.ch.bk=t.ch.name.length+t.ch.attrs.length+t.ch.text.length+1:=rfl
  by_cases hn:t.ch.name=[]
  . have e:zbo s t.ch=s:=by unfold zbo;rw[if_pos hk,if_pos hn]
    refine(zj1 (g:=g) (elK t) w ((KT.name_nil t).1 hn)).mono ?_
    rintro e' w' ⟨rfl,hb'⟩
    exact⟨rfl,mn,by rw[e];exact h.below hb',by rw[e];omega,hb'.mono hM.bw⟩
  . have hne:(elK t).tag.s.data.toList≠[]:=fun e=>hn ((KT.name_nil t).2 e)
    cases hv:zjo t.ch.nm with
    | true=>
      have e:zbo s t.ch=⟨s.top,s.loose++ [⟨t.ch.name,t.ch.attrs,[],[]⟩],s.anc⟩:=by unfold zbo;rw[if_pos hk,if_neg hn,if_pos hv]
      refine(zj0 (elK t) w hM (zn8 ht) (by omega) hne (by rw[KT.nm_eq]at hv;exact hv)).mono ?_
      rintro e' w' ⟨rfl,Al',cl',hM',hb'⟩
      refine⟨rfl,mn,?_,by rw[e];show mn+s.anc.length<=_;omega,hb'⟩
      rw[e]
      refine⟨Ao,co,fr,Al',cl',ls++ [elK t],f,hM',hfr,?_,fun x=>hf x⟩
      rw[zn,hls]
      show s.loose++ [TT.ch _]=_
      rw[zn9]
    | false=>
      have e:zbo s t.ch=⟨⟨t.ch.name,zag t.ch.attrs,[],[]⟩,[],zam s.top s.loose::s.anc⟩:=by unfold zbo;rw[if_pos hk,if_neg hn,if_neg (by rw[hv];decide)]
      obtain⟨fs,tl,rfl,hfs,htl⟩:=zbR hfr
      have k1:=znM hM (x:=tl) (by simp)
      rw[htl]at k1
      have hlen:fs.length<=bkL s.anc:=by
        have h1:=zau (chL fs)
        rw[zv,hfs,zl4]at h1
        exact h1
      have hbe:bkL (chL [elK t])<=1048576:=by
        show bkL [TT.ch _]<=_
        rw[zn9,zaT,znJ]
        omega
      have htop:1<=s.top.bk:=by rw[PT.bk_eq];omega
      have hcl:s.names.count t.nm.s.data.toList<=s.anc.length:=by
        refine Nat.le_trans List.count_le_length ?_
        unfold BS.names
        rw[List.length_map,List.length_tail,List.length_append,List.length_reverse]
        show s.anc.length+1 - 1<=_
        omega
      have hft:=hf t.nm.s.data.toList
      have hal:=zau s.anc
      have hft2:-4294967296<=f (elK t).tag.s.data.toList/\f (elK t).tag.s.data.toList<=4294967296:=by
        show -4294967296<=f t.nm.s.data.toList/\f t.nm.s.data.toList<=4294967296
        omega
      refine(zj2 (elK t) w hM (zn8 ht) rfl (by rw[hls];omega) hbe (by omega) (by omega) hft2 hne (by rw[KT.nm_eq]at hv;exact hv)).mono ?_
      rintro e' w' ⟨rfl,K',kc',ms,Ao',co',tn,hM',hms,htn,hb'⟩
      refine⟨rfl,mn+1,?_,by rw[e];show mn+1+(s.anc.length+1)<=_;omega,hb'⟩
      rw[e]
      refine⟨Ao',co',_,Al,cl,[],_,hM',?_,rfl,?_⟩
      . rw[zn,zn,hfs,List.reverse_cons]
        show s.anc.reverse++ [TT.ch _]++ [tn.ch]=s.anc.reverse++ [zam s.top s.loose]++ [PT.mk t.ch.name (zag t.ch.attrs) [] []]
        rw[htn]
        congr 2
        rw[TT.ch_eq]
        have hat:=(hM.head tl (by simp)).blank
        show [PT.mk tl.tag.ch (tl.atts.map AT.ch) (chL (tl.kids++ ms)) tl.text.ch]=[PT.mk s.top.tag s.top.attrs (s.top.kids++ zp s.loose) []]
        rw[hat,zn,hms,hls,<-htl,TT.ch_tag,TT.ch_attrs,TT.ch_kids]
      . intro x
        rw[zc9 s.top ⟨t.ch.name,zag t.ch.attrs,[],[]⟩ s.loose [] (zam s.top s.loose) s.anc rfl,zdr]
        show upd f t.nm.s.data.toList (f t.nm.s.data.toList+1) x=(s.names.count x:Int)+(if t.ch.nm=x then 1 else 0)
        rw[KT.nm_eq]
        unfold upd
        by_cases hx:x=t.nm.s.data.toList
        . rw[if_pos hx,if_pos hx.symm,hx,hft]
        . rw[if_neg hx,if_neg (fun e=>hx e.symm),hf x]
          omega
theorem zmn{S:Nat->Prop}{base g bm mn:Nat}{s:BS}(t:KT)(w:World)(h:BldR S w base g bm mn s)(ht:t.inS S w)(hb:bkB s+t.ch.bk<=1048576)(hmn:mn+s.anc.length<=4294967290) :
    Calls Tryz.prog 61 #[.pointer (some ⟨g,0,none⟩),.agg #[.int .i64 t.kind,.string t.nm.s,.slice t.nm.A t.nm.n t.nm.c,.slice t.A t.n t.c,.bool t.close,.string t.tx.s,.slice t.tx.A t.tx.n t.tx.c]] w fun e w'=>e=.returned (.tuple #[])/\∃ mn',BldR S w' base g bm mn' (zbo s t.ch)/\mn'+(zbo s t.ch).anc.length<=mn+s.anc.length+2/\Below base w w':=by
  obtain⟨i0,hi,hz0,hz1,hz2⟩:=info_parts zbL
  have hbw:base<=w.heap.size:=by obtain⟨_,_,_,_,_,_,_,hM,_⟩:=h;exact hM.bw
  have hgw:g < w.heap.size:=by obtain⟨_,_,_,_,_,_,_,hM,_⟩:=h;exact hM.box.lt
  obtain⟨Ao,co,fr,Al,cl,ls,f,hM,hfr,hls,hf⟩:=id h
  have HR:=Lib.hid h
  have HT:=Lib.hid ht
  have HFR:=Lib.hid hfr
  have HLS:=Lib.hid hls
  have HF:=Lib.hid hf
  have HM:=Lib.hid hM
  have HNEB:Hid (some w.heap.size≠blkA Al):=fun e=>by have:=(hM.loo.lt w.heap.size (by rw[zm];exact e.symm)).2;omega
  clear hM hfr hls hf
  have HNM:=Lib.hid (KT.nm_eq t)
  clear h ht
  go_enter Tryz.func61,Tryz.ntmps61
  go_upto_block 0 with fail
  generalize hw0:w.alloc (.cells #[.int .i64 t.kind,.string t.nm.s,.slice t.nm.A t.nm.n t.nm.c,.slice t.A t.n t.c,.bool t.close,.string t.tx.s,.slice t.tx.A t.tx.n t.tx.c] 98)=w0
  have y0:Hid (Whole w0 w.heap.size 98 #[.int .i64 t.kind,.string t.nm.s,.slice t.nm.A t.nm.n t.nm.c,.slice t.A t.n t.c,.bool t.close,.string t.tx.s,.slice t.tx.A t.tx.n t.tx.c]):=by rw[<-hw0];exact Whole.made _ _ _
  have hb0:Below w.heap.size w w0:=by rw[<-hw0];exact(Below.refl _ _).alloc (Nat.le_refl _) _
  have HR0:=Lib.hid (HR.out.below hb0)
  have HT0:Hid (t.inS S w0):=HT.out.keep (Stays.of hb0)
  have HB0:Hid (Below base w w0):=hb0.mono hbw
  have H0:=Lib.hid (HM.out.below hb0)
  have k0:=y0.out.at_ 0
  have k1:=y0.out.at_ 1
  have k2:=y0.out.at_ 2
  have k3:=y0.out.at_ 3
  generalize hebb:w.heap.size=eb at *
  clear hw0 hb0
  by_cases h1:t.kind=1
  . have x1:(t.kind == 1)=true:=by rw[h1];rfl
    have HBG:=Lib.hid (zpf t w0 HR0.out HT0.out h1 hb hmn)
    clear h1
    go_wp2_with fail
    refine HBG.out.mono ?_
    rintro e w1 ⟨rfl,mn',hr1,hm1,hb1⟩
    have HR1:=Lib.hid hr1
    have HB1:Hid (Below base w w1):=HB0.out.trans hb1
    have HM1:=Lib.hid hm1
    clear hr1 hb1 hm1 HBG
    go_wp2_with fail
    go_end0
    exact⟨rfl,mn',HR1.out,HM1.out,HB1.out⟩
  . have x1:(t.kind == 1)=false:=by rw[beq_eq_false_iff_ne];exact h1
    by_cases h2:t.kind=2
    . have x2:(t.kind == 2)=true:=by rw[h2];rfl
      have HST:Hid (zbo s t.ch=zeA t.nm.s.data.toList s):=by
        show _=_
        rw[zkE (show t.ch.kind=2 from h2),HNM.out]
        rfl
      have HBG:=Lib.hid (zj5 t.nm.s w0 HR0.out (by omega) (by omega) (by have:=HT0.out.nm.ok.2.2.2;omega))
      clear h1 h2
      go_wp2_with fail
      refine HBG.out.mono ?_
      rintro e w1 ⟨rfl,mn',hr1,hm1,hb1⟩
      have HR1:=Lib.hid hr1
      have HB1:Hid (Below base w w1):=HB0.out.trans hb1
      have HM1:=Lib.hid hm1
      clear hr1 hb1 hm1 HBG
      go_wp2_with fail
      go_end0
      exact⟨rfl,mn',by rw[HST.out];exact HR1.out,by rw[HST.out];have:=HM1.out;omega,HB1.out⟩
    . have x2:(t.kind == 2)=false:=by rw[beq_eq_false_iff_ne];exact h2
      by_cases h3:t.kind=3
      . have x3:(t.kind == 3)=true:=by rw[h3];rfl
        have HST:Hid (zbo s t.ch=⟨s.top,s.loose++ [txT t.tx.ch],s.anc⟩):=by
          show _=_
          unfold zbo
          rw[if_neg (show ¬ t.ch.kind=1 from h1),if_neg (show ¬ t.ch.kind=2 from h2),if_pos (show t.ch.kind=3 from h3)]
          rfl
        have hll:ls.length<=bkL s.loose:=by
          have h1:=zau (chL ls)
          rw[zv,HLS.out]at h1
          exact h1
        have hls2:ls.length<=1048576:=by
          have hbB:bkB s=s.top.bk+bkL s.anc+bkL s.loose:=rfl
          omega
        have HA0:Hid (AllS S w0 [txT1 t.tx]):=AllS.one (zoz HT0.out.tx) (AllS.nil _ _)
        have hneb0:=HNEB.out
        clear h1 h2 h3 hll
        go_upto_region 7 with fail
        have hS:w0.drew.cell? ⟨g,1,none⟩=some (.slice Al ls.length cl)/\Whole w0.drew eb 98 #[.int .i64 t.kind,.string t.nm.s,.slice t.nm.A t.nm.n t.nm.c,.slice t.A t.n t.c,.bool t.close,.string t.tx.s,.slice t.tx.A t.tx.n t.tx.c]:=⟨H0.out.at1,y0.out.drew⟩
        refine z8 (S:=(fun V=>V.cell? ⟨g,1,none⟩=some (.slice Al ls.length cl)/\Whole V eb 98 #[.int .i64 t.kind,.string t.nm.s,.slice t.nm.A t.nm.n t.nm.c,.slice t.A t.n t.c,.bool t.close,.string t.tx.s,.slice t.tx.A t.tx.n t.tx.c])) (Z:=(fun i=>decide (10<=i))) (by kernel_rfl) ?_
        have hla0:(0:Int)<=(ls.length:Int):=Int.natCast_nonneg _
        have hla1:(ls.length:Int) < ((ls.length+1:Nat):Int):=by omega
        have hla2:(ls.length:Int) < (ls.length:Int)+1:=by omega
        refine' zb (i:=0) ?i1 (by kernel_rfl) (by kernel_rfl) (by kernel_rfl) (by kernel_rfl) ?q1 ?y1 hS ?r1
        case i1=>simp only[zlD,zlE];rfl
        case q1=>exact fun _ _ _ h=>h
        case y1=>
          refine Or.inl ⟨by rfl,?_⟩
          intro wq hq
          try dsimp only at hq
          try obtain⟨hq0,hq1⟩:=hq
          go_simp
          try with_reducible rfl
        try simp only[Act.put,zlA,zlB,zlC]
        refine' zb (i:=1) ?i2 (by kernel_rfl) (by kernel_rfl) (by kernel_rfl) (by kernel_rfl) ?q2 ?y2 hS ?r2
        case i2=>simp only[zlD,zlF,zlE];rfl
        case q2=>exact fun _ _ _ h=>h
        case y2=>
          refine Or.inl ⟨by rfl,?_⟩
          intro wq hq
          try dsimp only at hq
          try obtain⟨hq0,hq1⟩:=hq
          go_simp
          try with_reducible rfl
        try simp only[Act.put,zlA,zlB,zlC]
        refine' zb (i:=2) ?i3 (by kernel_rfl) (by kernel_rfl) (by kernel_rfl) (by kernel_rfl) ?q3 ?y3 hS ?r3
        case i3=>simp only[zlD,zlF,zlE];rfl
        case q3=>exact fun _ _ _ h=>h
        case y3=>
          refine Or.inl ⟨by rfl,?_⟩
          intro wq hq
          try dsimp only at hq
          try obtain⟨hq0,hq1⟩:=hq
          go_simp
          try with_reducible rfl
        try simp only[Act.put,zlA,zlB,zlC]
        refine' zb (i:=3) ?i4 (by kernel_rfl) (by kernel_rfl) (by kernel_rfl) (by kernel_rfl) ?q4 ?y4 hS ?r4
        case i4=>simp only[zlD,zlF,zlE];rfl
        case q4=>exact fun _ _ _ h=>h
        case y4=>
          refine Or.inl ⟨by rfl,?_⟩
          intro wq hq
          try dsimp only at hq
          try obtain⟨hq0,hq1⟩:=hq
          go_simp
          try with_reducible rfl
        try simp only[Act.put,zlA,zlB,zlC]
        refine' zb (i:=4) ?i5 (by kernel_rfl) (by kernel_rfl) (by kernel_rfl) (by kernel_rfl) ?q5 ?y5 hS ?r5
        case i5=>simp only[zlD,zlF,zlE];rfl
        case q5=>exact fun _ _ _ h=>h
        case y5=>
          refine Or.inl ⟨by rfl,?_⟩
          intro wq hq
          try dsimp only at hq
          try obtain⟨hq0,hq1⟩:=hq
          go_simp
          try with_reducible rfl
        try simp only[Act.put,zlA,zlB,zlC]
        refine' zb (i:=5) ?i6 (by kernel_rfl) (by kernel_rfl) (by kernel_rfl) (by kernel_rfl) ?q6 ?y6 hS ?r6
        case i6=>simp only[zlD,zlF,zlE];rfl
        case q6=>exact fun _ _ _ h=>h
        case y6=>
          refine Or.inl ⟨by rfl,?_⟩
          intro wq hq
          try dsimp only at hq
          try obtain⟨hq0,hq1⟩:=hq
          have hr0:=hq1.at_ 0
          have hr1:=hq1.at_ 1
          have hr2:=hq1.at_ 2
          have hr3:=hq1.at_ 3
          have hr4:=hq1.at_ 4
          have hr5:=hq1.at_ 5
          have hr6:=hq1.at_ 6
          go_simp
          try with_reducible rfl
        try simp only[Act.put,zlA,zlB,zlC]
        refine' zb (i:=6) ?i7 (by kernel_rfl) (by kernel_rfl) (by kernel_rfl) (by kernel_rfl) ?q7 ?y7 hS ?r7
        case i7=>simp only[zlD,zlF,zlE];rfl
        case q7=>exact fun _ _ _ h=>h
        case y7=>
          refine Or.inl ⟨by rfl,?_⟩
          intro wq hq
          try dsimp only at hq
          try obtain⟨hq0,hq1⟩:=hq
          go_simp
          try with_reducible rfl
        try simp only[Act.put,zlA,zlB,zlC]
        refine' zb (i:=7) ?i8 (by kernel_rfl) (by kernel_rfl) (by kernel_rfl) (by kernel_rfl) ?q8 ?y8 hS ?r8
        case i8=>simp only[zlD,zlF,zlE];rfl
        case q8=>exact fun _ _ _ h=>h
        case y8=>
          refine Or.inl ⟨by rfl,?_⟩
          intro wq hq
          try dsimp only at hq
          try obtain⟨hq0,hq1⟩:=hq
          go_simp
          try with_reducible rfl
        try simp only[Act.put,zlA,zlB,zlC]
        refine za (rs:=[8]) (by kernel_rfl) (by simp) ?_
        refine' ReadyL.cons ?o9 (fun K hK=>?s9) ReadyL.nil
        case o9=>simp only[zlD,zlF,zlE];rfl
        go_simp
        have hba:Below w0.heap.size w0 (w0.drew.alloc (.cells (zj zeroTT).toArray 48)):=(Below.drew (Below.refl w0.heap.size w0)).alloc (Nat.le_refl _) _
        have h6a:=H0.out.below hba
        have HA7:Hid (AllS S (w0.drew.alloc (.cells (zj zeroTT).toArray 48)) [txT1 t.tx]):=HA0.out.keep (Stays.of hba)
        have HBA:Hid (Below base w (w0.drew.alloc (.cells (zj zeroTT).toArray 48))):=HB0.out.trans (hba.mono H0.out.bw)
        refine hK.out _ _ (.inr ⟨h6a.at1,hS.2.alloc _⟩) ?_
        have hS2:Whole (w0.drew.alloc (.cells (zj zeroTT).toArray 48)) eb 98 #[.int .i64 t.kind,.string t.nm.s,.slice t.nm.A t.nm.n t.nm.c,.slice t.A t.n t.c,.bool t.close,.string t.tx.s,.slice t.tx.A t.tx.n t.tx.c]:=hS.2.alloc _
        clear hK K hba hS
        try simp only[Act.put,zlA,zlB,zlC]
        refine za (rs:=[9]) (by kernel_rfl) (by simp) ?_
        refine' ReadyL.cons ?o10 (fun K hK=>?s10) ReadyL.nil
        case o10=>simp only[zlD,zlF,zlE];rfl
        refine zA _ (by rfl) (.tmp 27) (.tmp 32) 27 (by rfl) base 48 i0 _ 6 128 Tryz.underlying27 hi hz0 hz1 hz2 rfl (by omega) (.slice Al ls.length cl) ls.length _ (by rfl) h6a.loo _ (some ⟨w0.heap.size,0,none⟩) 1 1 (zj zeroTT) (by rfl) (by simp) (by rfl) (za0 (Whole.made w0.drew _ _) rfl) (zaZ _) (by simp only[maxLen];omega) (by omega) h6a.bw ?_
        intro v2 w7 hown7 hgr7 hbl7
        obtain⟨gK,kc',cur,rfl,hgKb,hgK⟩:∃ gK cap cur,v2=.slice (some ⟨gK,0,none⟩) (ls.length+1) cap/\base<=gK/\w7.heap[gK]?=some (.cells cur 48 (0,0)):=by
          rcases hown7.2 with ⟨_,h0⟩ | ⟨gK,cap,cur,hv,hb,hg,_⟩
          . omega
          . exact⟨gK,cap,cur,hv,hb,hg⟩
        rw[zm]at hgr7
        rw[zm,zm]at hbl7
        have hbg:Whole w7 g 58 #[.slice Ao fr.length co,.slice Al ls.length cl,.map (some bm)]:=h6a.box.grown hgr7 (fun e=>(h6a.notg h6a.loo e.symm).1 rfl)
        have hne1:gK≠g:=by
          rintro rfl
          unfold Whole at hbg
          rw[hgK]at hbg
          injection hbg with hbg
          injection hbg with _ hbg _
          exact absurd hbg (by decide)
        have hne2:g≠gK:=Ne.symm hne1
        have hcz:∀ j u,j < 6->(zj zeroTT)[j]?=some u->w7.cell? ⟨gK,ls.length * 6+j,none⟩=some u:=fun j u hj hu=>by
          have h1:=hown7
          rw[<-zL]at h1
          obtain⟨ad,e,_,hc⟩:=Lies.own h1 _ _ ((zav (ls++ [zeroTT]) ls.length zeroTT (by rw[List.getElem?_concat_length]) j hj).trans hu)
          injection e with e
          subst e
          rw[zbl]at hc
          exact hc
        have z0:w7.cell? ⟨gK,ls.length * 6,none⟩=some (.string ⟨#[]⟩):=hcz 0 _ (by omega) rfl
        have z1:=hcz 1 _ (by omega) rfl
        have z2:=hcz 2 _ (by omega) rfl
        have z3:=hcz 3 _ (by omega) rfl
        have z4:=hcz 4 _ (by omega) rfl
        have z5:=hcz 5 _ (by omega) rfl
        have zf0:w7.frozen? ⟨gK,ls.length * 6,none⟩=false:=frozen_of_row w7 gK _ cur _ hgK
        have zf1:w7.frozen? ⟨gK,ls.length * 6+1,none⟩=false:=frozen_of_row w7 gK _ cur _ hgK
        have zf2:w7.frozen? ⟨gK,ls.length * 6+2,none⟩=false:=frozen_of_row w7 gK _ cur _ hgK
        have zf3:w7.frozen? ⟨gK,ls.length * 6+3,none⟩=false:=frozen_of_row w7 gK _ cur _ hgK
        have zf4:w7.frozen? ⟨gK,ls.length * 6+4,none⟩=false:=frozen_of_row w7 gK _ cur _ hgK
        have zf5:w7.frozen? ⟨gK,ls.length * 6+5,none⟩=false:=frozen_of_row w7 gK _ cur _ hgK
        have haf:(⟨gK,0,none⟩:Addr).add (ls.length * 6)=⟨gK,ls.length * 6,none⟩:=zbl _ _
        have q3:w7.cell? ⟨g,1,none⟩=some (.slice Al ls.length cl):=hbg.at_ 1
        have qf3:w7.frozen? ⟨g,1,none⟩=false:=hbg.free 1
        have y7:Whole w7 eb 98 #[.int .i64 t.kind,.string t.nm.s,.slice t.nm.A t.nm.n t.nm.c,.slice t.A t.n t.c,.bool t.close,.string t.tx.s,.slice t.tx.A t.tx.n t.tx.c]:=hS2.grown hgr7 hneb0
        have ho7:=hown7
        rw[<-zL]at ho7
        obtain⟨ho8,hm8⟩:=zbk (k:=ls.length) (txT1 t.tx) ho7 (by rw[List.length_append];show _ < _+1;omega)
        have hset:(ls++ [zeroTT]).set ls.length (txT1 t.tx)=ls++ [txT1 t.tx]:=by
          rw[List.set_append,if_neg (by omega),Nat.sub_self]
          rfl
        rw[hset,zao]at ho8
        have hgr8:(w0.drew.alloc (.cells (zj zeroTT).toArray 48)).grownBy ((((((w7.setCell ⟨gK,ls.length * 6,none⟩ (.string (txT1 t.tx).tag.s)).setCell ⟨gK,ls.length * 6+1,none⟩ (.slice (txT1 t.tx).tag.A (txT1 t.tx).tag.n (txT1 t.tx).tag.c)).setCell ⟨gK,ls.length * 6+2,none⟩ (.slice (txT1 t.tx).A (txT1 t.tx).n (txT1 t.tx).c)).setCell ⟨gK,ls.length * 6+3,none⟩ (.slice (txT1 t.tx).K (txT1 t.tx).kn (txT1 t.tx).kc)).setCell ⟨gK,ls.length * 6+4,none⟩ (.string (txT1 t.tx).text.s)).setCell ⟨gK,ls.length * 6+5,none⟩ (.slice (txT1 t.tx).text.A (txT1 t.tx).text.n (txT1 t.tx).text.c)) (blkA Al):=
          ⟨hm8.os.trans hgr7.os,hm8.tape.trans hgr7.tape,hm8.output.trans hgr7.output,Nat.le_trans hgr7.size hm8.size,fun k hk hs=>(hm8.block k (Nat.lt_of_lt_of_le hk hgr7.size) (fun e=>by
            rcases hbl7 with e2 | e2
            . exact hs (by rw[e,<-e2];rfl)
            . have e2:some gK=some _:=e2
              injection e2 with e2
              exact Nat.lt_irrefl _ (Nat.lt_of_lt_of_eq hk (e.trans e2).symm))).trans (hgr7.block k hk hs)⟩
        have HF7:=Lib.hid (h6a.pushLoose HA7.out hgr8 hbl7 ho8)
        have HB7:Hid (Below base w (((((((w7.setCell ⟨gK,ls.length * 6,none⟩ (.string (txT1 t.tx).tag.s)).setCell ⟨gK,ls.length * 6+1,none⟩ (.slice (txT1 t.tx).tag.A (txT1 t.tx).tag.n (txT1 t.tx).tag.c)).setCell ⟨gK,ls.length * 6+2,none⟩ (.slice (txT1 t.tx).A (txT1 t.tx).n (txT1 t.tx).c)).setCell ⟨gK,ls.length * 6+3,none⟩ (.slice (txT1 t.tx).K (txT1 t.tx).kn (txT1 t.tx).kc)).setCell ⟨gK,ls.length * 6+4,none⟩ (.string (txT1 t.tx).text.s)).setCell ⟨gK,ls.length * 6+5,none⟩ (.slice (txT1 t.tx).text.A (txT1 t.tx).text.n (txT1 t.tx).text.c)).setCell ⟨g,1,none⟩ (.slice (some ⟨gK,0,none⟩) (ls.length+1) kc'))):=by
          have h2:Below base (w0.drew.alloc (.cells (zj zeroTT).toArray 48)) ((((((w7.setCell ⟨gK,ls.length * 6,none⟩ (.string (txT1 t.tx).tag.s)).setCell ⟨gK,ls.length * 6+1,none⟩ (.slice (txT1 t.tx).tag.A (txT1 t.tx).tag.n (txT1 t.tx).tag.c)).setCell ⟨gK,ls.length * 6+2,none⟩ (.slice (txT1 t.tx).A (txT1 t.tx).n (txT1 t.tx).c)).setCell ⟨gK,ls.length * 6+3,none⟩ (.slice (txT1 t.tx).K (txT1 t.tx).kn (txT1 t.tx).kc)).setCell ⟨gK,ls.length * 6+4,none⟩ (.string (txT1 t.tx).text.s)).setCell ⟨gK,ls.length * 6+5,none⟩ (.slice (txT1 t.tx).text.A (txT1 t.tx).text.n (txT1 t.tx).text.c)):=(Below.refl base _).grown hgr8 h6a.bw (fun k hk=>(h6a.loo.lt k (by rw[zm];exact hk)).1)
          exact(HBA.out.trans h2).setCell h6a.gb.1 _
        have HCM:Hid ((((((((w7.setCell ⟨g,1,none⟩ (.slice (some ⟨gK,0,none⟩) (ls.length+1) kc')).setCell ⟨gK,ls.length * 6,none⟩ (.string (txT1 t.tx).tag.s)).setCell ⟨gK,ls.length * 6+1,none⟩ (.slice (txT1 t.tx).tag.A (txT1 t.tx).tag.n (txT1 t.tx).tag.c)).setCell ⟨gK,ls.length * 6+2,none⟩ (.slice (txT1 t.tx).A (txT1 t.tx).n (txT1 t.tx).c)).setCell ⟨gK,ls.length * 6+3,none⟩ (.slice (txT1 t.tx).K (txT1 t.tx).kn (txT1 t.tx).kc)).setCell ⟨gK,ls.length * 6+4,none⟩ (.string (txT1 t.tx).text.s)).setCell ⟨gK,ls.length * 6+5,none⟩ (.slice (txT1 t.tx).text.A (txT1 t.tx).text.n (txT1 t.tx).text.c))=((((((w7.setCell ⟨gK,ls.length * 6,none⟩ (.string (txT1 t.tx).tag.s)).setCell ⟨gK,ls.length * 6+1,none⟩ (.slice (txT1 t.tx).tag.A (txT1 t.tx).tag.n (txT1 t.tx).tag.c)).setCell ⟨gK,ls.length * 6+2,none⟩ (.slice (txT1 t.tx).A (txT1 t.tx).n (txT1 t.tx).c)).setCell ⟨gK,ls.length * 6+3,none⟩ (.slice (txT1 t.tx).K (txT1 t.tx).kn (txT1 t.tx).kc)).setCell ⟨gK,ls.length * 6+4,none⟩ (.string (txT1 t.tx).text.s)).setCell ⟨gK,ls.length * 6+5,none⟩ (.slice (txT1 t.tx).text.A (txT1 t.tx).text.n (txT1 t.tx).text.c)).setCell ⟨g,1,none⟩ (.slice (some ⟨gK,0,none⟩) (ls.length+1) kc')):=by
          show _=_
          rw[zy w7 ⟨g,1,none⟩ ⟨gK,ls.length * 6,none⟩ hne2,zy _ ⟨g,1,none⟩ ⟨gK,ls.length * 6+1,none⟩ hne2,zy _ ⟨g,1,none⟩ ⟨gK,ls.length * 6+2,none⟩ hne2,zy _ ⟨g,1,none⟩ ⟨gK,ls.length * 6+3,none⟩ hne2,zy _ ⟨g,1,none⟩ ⟨gK,ls.length * 6+4,none⟩ hne2,zy _ ⟨g,1,none⟩ ⟨gK,ls.length * 6+5,none⟩ hne2]
        refine hK.out _ _ (.inr ⟨q3,y7⟩) ?_
        clear hK K hown7 hgr7 hbl7 hgK hcz hbg y7 ho7 ho8 hm8 hset hgr8 hS2 h6a
        try simp only[Act.put,zlA,zlB,zlC]
        refine za (rs:=[10,12]) (by kernel_rfl) (by simp) ?_
        refine' ReadyL.cons ?o11 (fun K hK=>?s11) ?m11
        case o11=>simp only[zlD,zlF,zlE];rfl
        case s11=>
          go_simp
          refine hK.out _ _ (.inl (by decide)) ?_
          clear hK K
          try simp only[Act.put,zlA,zlB,zlC]
          refine za (rs:=[11,12]) (by kernel_rfl) (by simp) ?_
          refine' ReadyL.cons ?o12 (fun K hK=>?s12) ?m12
          case o12=>simp only[zlD,zlF,zlE];rfl
          case s12=>
            go_simp
            refine hK.out _ _ (.inl (by decide)) ?_
            clear hK K
            try simp only[Act.put,zlA,zlB,zlC]
            refine za (rs:=[12]) (by kernel_rfl) (by simp) ?_
            refine' ReadyL.cons ?o13 (fun K hK=>?s13) ReadyL.nil
            case o13=>simp only[zlD,zlF,zlE];rfl
            go_simp
            refine hK.out _ _ (.inl (by decide)) ?_
            clear hK K
            try simp only[Act.put,zlA,zlB,zlC]
            refine za (rs:=[13]) (by kernel_rfl) (by simp) ?_
            refine' ReadyL.cons ?o14 (fun K hK=>?s14) ReadyL.nil
            case o14=>simp only[zlD,zlF,zlE];rfl
            go_simp
            refine hK.out _ _ (.inl (by decide)) ?_
            clear hK K
            try simp only[Act.put,zlA,zlB,zlC]
            refine za (rs:=[14]) (by kernel_rfl) (by simp) ?_
            refine' ReadyL.cons ?o15 (fun K hK=>?s15) ReadyL.nil
            case o15=>simp only[zlD,zlF,zlE];rfl
            go_simp
            refine hK.out _ _ (.inl (by decide)) ?_
            clear hK K
            try simp only[Act.put,zlA,zlB,zlC]
            refine zg (by kernel_rfl) ?_ _
            go_wp2_with fail
            go_end0
            exact⟨rfl,mn,by rw[HST.out];exact⟨Ao,co,fr,some ⟨gK,0,none⟩,kc',ls++ [txT1 t.tx],f,HF7.out,HFR.out,by rw[zn,HLS.out];show _++ [TT.ch _]=_;rw[zbC],fun x=>HF.out x⟩,by rw[HST.out];show mn+s.anc.length<=_;omega,HB7.out⟩
          refine' ReadyL.cons ?o16 (fun K hK=>?s16) ReadyL.nil
          case o16=>simp only[zlD,zlF,zlE];rfl
          go_simp
          refine hK.out _ _ (.inl (by decide)) ?_
          clear hK K
          try simp only[Act.put,zlA,zlB,zlC]
          refine za (rs:=[11,13]) (by kernel_rfl) (by simp) ?_
          refine' ReadyL.cons ?o17 (fun K hK=>?s17) ?m17
          case o17=>simp only[zlD,zlF,zlE];rfl
          case s17=>
            go_simp
            refine hK.out _ _ (.inl (by decide)) ?_
            clear hK K
            try simp only[Act.put,zlA,zlB,zlC]
            refine za (rs:=[13]) (by kernel_rfl) (by simp) ?_
            refine' ReadyL.cons ?o18 (fun K hK=>?s18) ReadyL.nil
            case o18=>simp only[zlD,zlF,zlE];rfl
            go_simp
            refine hK.out _ _ (.inl (by decide)) ?_
            clear hK K
            try simp only[Act.put,zlA,zlB,zlC]
            refine za (rs:=[14]) (by kernel_rfl) (by simp) ?_
            refine' ReadyL.cons ?o19 (fun K hK=>?s19) ReadyL.nil
            case o19=>simp only[zlD,zlF,zlE];rfl
            go_simp
            refine hK.out _ _ (.inl (by decide)) ?_
            clear hK K
            try simp only[Act.put,zlA,zlB,zlC]
            refine zg (by kernel_rfl) ?_ _
            go_wp2_with fail
            go_end0
            exact⟨rfl,mn,by rw[HST.out];exact⟨Ao,co,fr,some ⟨gK,0,none⟩,kc',ls++ [txT1 t.tx],f,HF7.out,HFR.out,by rw[zn,HLS.out];show _++ [TT.ch _]=_;rw[zbC],fun x=>HF.out x⟩,by rw[HST.out];show mn+s.anc.length<=_;omega,HB7.out⟩
          refine' ReadyL.cons ?o20 (fun K hK=>?s20) ReadyL.nil
          case o20=>simp only[zlD,zlF,zlE];rfl
          go_simp
          refine hK.out _ _ (.inl (by decide)) ?_
          clear hK K
          try simp only[Act.put,zlA,zlB,zlC]
          refine za (rs:=[11,14]) (by kernel_rfl) (by simp) ?_
          refine' ReadyL.cons ?o21 (fun K hK=>?s21) ?m21
          case o21=>simp only[zlD,zlF,zlE];rfl
          case s21=>
            go_simp
            refine hK.out _ _ (.inl (by decide)) ?_
            clear hK K
            try simp only[Act.put,zlA,zlB,zlC]
            refine za (rs:=[14]) (by kernel_rfl) (by simp) ?_
            refine' ReadyL.cons ?o22 (fun K hK=>?s22) ReadyL.nil
            case o22=>simp only[zlD,zlF,zlE];rfl
            go_simp
            refine hK.out _ _ (.inl (by decide)) ?_
            clear hK K
            try simp only[Act.put,zlA,zlB,zlC]
            refine zg (by kernel_rfl) ?_ _
            go_wp2_with fail
            go_end0
            exact⟨rfl,mn,by rw[HST.out];exact⟨Ao,co,fr,some ⟨gK,0,none⟩,kc',ls++ [txT1 t.tx],f,HF7.out,HFR.out,by rw[zn,HLS.out];show _++ [TT.ch _]=_;rw[zbC],fun x=>HF.out x⟩,by rw[HST.out];show mn+s.anc.length<=_;omega,HB7.out⟩
          refine' ReadyL.cons ?o23 (fun K hK=>?s23) ReadyL.nil
          case o23=>simp only[zlD,zlF,zlE];rfl
          go_simp
          refine hK.out _ _ (.inl (by decide)) ?_
          clear hK K
          try simp only[Act.put,zlA,zlB,zlC]
          refine za (rs:=[11]) (by kernel_rfl) (by simp) ?_
          refine' ReadyL.cons ?o24 (fun K hK=>?s24) ReadyL.nil
          case o24=>simp only[zlD,zlF,zlE];rfl
          go_simp
          refine hK.out _ _ (.inl (by decide)) ?_
          clear hK K
          try simp only[Act.put,zlA,zlB,zlC]
          refine zg (by kernel_rfl) ?_ _
          go_wp2_with fail
          go_end0
          exact⟨rfl,mn,by rw[HST.out];exact⟨Ao,co,fr,some ⟨gK,0,none⟩,kc',ls++ [txT1 t.tx],f,by have h9:=HF7.out;rw[<-HCM.out]at h9;exact h9,HFR.out,by rw[zn,HLS.out];show _++ [TT.ch _]=_;rw[zbC],fun x=>HF.out x⟩,by rw[HST.out];show mn+s.anc.length<=_;omega,by have h9:=HB7.out;rw[<-HCM.out]at h9;exact h9⟩
        refine' ReadyL.cons ?o25 (fun K hK=>?s25) ReadyL.nil
        case o25=>simp only[zlD,zlF,zlE];rfl
        go_simp
        refine hK.out _ _ (.inl (by decide)) ?_
        clear hK K
        try simp only[Act.put,zlA,zlB,zlC]
        refine za (rs:=[10,13]) (by kernel_rfl) (by simp) ?_
        refine' ReadyL.cons ?o26 (fun K hK=>?s26) ?m26
        case o26=>simp only[zlD,zlF,zlE];rfl
        case s26=>
          go_simp
          refine hK.out _ _ (.inl (by decide)) ?_
          clear hK K
          try simp only[Act.put,zlA,zlB,zlC]
          refine za (rs:=[11,13]) (by kernel_rfl) (by simp) ?_
          refine' ReadyL.cons ?o27 (fun K hK=>?s27) ?m27
          case o27=>simp only[zlD,zlF,zlE];rfl
          case s27=>
            go_simp
            refine hK.out _ _ (.inl (by decide)) ?_
            clear hK K
            try simp only[Act.put,zlA,zlB,zlC]
            refine za (rs:=[13]) (by kernel_rfl) (by simp) ?_
            refine' ReadyL.cons ?o28 (fun K hK=>?s28) ReadyL.nil
            case o28=>simp only[zlD,zlF,zlE];rfl
            go_simp
            refine hK.out _ _ (.inl (by decide)) ?_
            clear hK K
            try simp only[Act.put,zlA,zlB,zlC]
            refine za (rs:=[14]) (by kernel_rfl) (by simp) ?_
            refine' ReadyL.cons ?o29 (fun K hK=>?s29) ReadyL.nil
            case o29=>simp only[zlD,zlF,zlE];rfl
            go_simp
            refine hK.out _ _ (.inl (by decide)) ?_
            clear hK K
            try simp only[Act.put,zlA,zlB,zlC]
            refine zg (by kernel_rfl) ?_ _
            go_wp2_with fail
            go_end0
            exact⟨rfl,mn,by rw[HST.out];exact⟨Ao,co,fr,some ⟨gK,0,none⟩,kc',ls++ [txT1 t.tx],f,HF7.out,HFR.out,by rw[zn,HLS.out];show _++ [TT.ch _]=_;rw[zbC],fun x=>HF.out x⟩,by rw[HST.out];show mn+s.anc.length<=_;omega,HB7.out⟩
          refine' ReadyL.cons ?o30 (fun K hK=>?s30) ReadyL.nil
          case o30=>simp only[zlD,zlF,zlE];rfl
          go_simp
          refine hK.out _ _ (.inl (by decide)) ?_
          clear hK K
          try simp only[Act.put,zlA,zlB,zlC]
          refine za (rs:=[11,14]) (by kernel_rfl) (by simp) ?_
          refine' ReadyL.cons ?o31 (fun K hK=>?s31) ?m31
          case o31=>simp only[zlD,zlF,zlE];rfl
          case s31=>
            go_simp
            refine hK.out _ _ (.inl (by decide)) ?_
            clear hK K
            try simp only[Act.put,zlA,zlB,zlC]
            refine za (rs:=[14]) (by kernel_rfl) (by simp) ?_
            refine' ReadyL.cons ?o32 (fun K hK=>?s32) ReadyL.nil
            case o32=>simp only[zlD,zlF,zlE];rfl
            go_simp
            refine hK.out _ _ (.inl (by decide)) ?_
            clear hK K
            try simp only[Act.put,zlA,zlB,zlC]
            refine zg (by kernel_rfl) ?_ _
            go_wp2_with fail
            go_end0
            exact⟨rfl,mn,by rw[HST.out];exact⟨Ao,co,fr,some ⟨gK,0,none⟩,kc',ls++ [txT1 t.tx],f,HF7.out,HFR.out,by rw[zn,HLS.out];show _++ [TT.ch _]=_;rw[zbC],fun x=>HF.out x⟩,by rw[HST.out];show mn+s.anc.length<=_;omega,HB7.out⟩
          refine' ReadyL.cons ?o33 (fun K hK=>?s33) ReadyL.nil
          case o33=>simp only[zlD,zlF,zlE];rfl
          go_simp
          refine hK.out _ _ (.inl (by decide)) ?_
          clear hK K
          try simp only[Act.put,zlA,zlB,zlC]
          refine za (rs:=[11]) (by kernel_rfl) (by simp) ?_
          refine' ReadyL.cons ?o34 (fun K hK=>?s34) ReadyL.nil
          case o34=>simp only[zlD,zlF,zlE];rfl
          go_simp
          refine hK.out _ _ (.inl (by decide)) ?_
          clear hK K
          try simp only[Act.put,zlA,zlB,zlC]
          refine zg (by kernel_rfl) ?_ _
          go_wp2_with fail
          go_end0
          exact⟨rfl,mn,by rw[HST.out];exact⟨Ao,co,fr,some ⟨gK,0,none⟩,kc',ls++ [txT1 t.tx],f,by have h9:=HF7.out;rw[<-HCM.out]at h9;exact h9,HFR.out,by rw[zn,HLS.out];show _++ [TT.ch _]=_;rw[zbC],fun x=>HF.out x⟩,by rw[HST.out];show mn+s.anc.length<=_;omega,by have h9:=HB7.out;rw[<-HCM.out]at h9;exact h9⟩
        refine' ReadyL.cons ?o35 (fun K hK=>?s35) ReadyL.nil
        case o35=>simp only[zlD,zlF,zlE];rfl
        go_simp
        refine hK.out _ _ (.inl (by decide)) ?_
        clear hK K
        try simp only[Act.put,zlA,zlB,zlC]
        refine za (rs:=[10,14]) (by kernel_rfl) (by simp) ?_
        refine' ReadyL.cons ?o36 (fun K hK=>?s36) ?m36
        case o36=>simp only[zlD,zlF,zlE];rfl
        case s36=>
          go_simp
          refine hK.out _ _ (.inl (by decide)) ?_
          clear hK K
          try simp only[Act.put,zlA,zlB,zlC]
          refine za (rs:=[11,14]) (by kernel_rfl) (by simp) ?_
          refine' ReadyL.cons ?o37 (fun K hK=>?s37) ?m37
          case o37=>simp only[zlD,zlF,zlE];rfl
          case s37=>
            go_simp
            refine hK.out _ _ (.inl (by decide)) ?_
            clear hK K
            try simp only[Act.put,zlA,zlB,zlC]
            refine za (rs:=[14]) (by kernel_rfl) (by simp) ?_
            refine' ReadyL.cons ?o38 (fun K hK=>?s38) ReadyL.nil
            case o38=>simp only[zlD,zlF,zlE];rfl
            go_simp
            refine hK.out _ _ (.inl (by decide)) ?_
            clear hK K
            try simp only[Act.put,zlA,zlB,zlC]
            refine zg (by kernel_rfl) ?_ _
            go_wp2_with fail
            go_end0
            exact⟨rfl,mn,by rw[HST.out];exact⟨Ao,co,fr,some ⟨gK,0,none⟩,kc',ls++ [txT1 t.tx],f,HF7.out,HFR.out,by rw[zn,HLS.out];show _++ [TT.ch _]=_;rw[zbC],fun x=>HF.out x⟩,by rw[HST.out];show mn+s.anc.length<=_;omega,HB7.out⟩
          refine' ReadyL.cons ?o39 (fun K hK=>?s39) ReadyL.nil
          case o39=>simp only[zlD,zlF,zlE];rfl
          go_simp
          refine hK.out _ _ (.inl (by decide)) ?_
          clear hK K
          try simp only[Act.put,zlA,zlB,zlC]
          refine za (rs:=[11]) (by kernel_rfl) (by simp) ?_
          refine' ReadyL.cons ?o40 (fun K hK=>?s40) ReadyL.nil
          case o40=>simp only[zlD,zlF,zlE];rfl
          go_simp
          refine hK.out _ _ (.inl (by decide)) ?_
          clear hK K
          try simp only[Act.put,zlA,zlB,zlC]
          refine zg (by kernel_rfl) ?_ _
          go_wp2_with fail
          go_end0
          exact⟨rfl,mn,by rw[HST.out];exact⟨Ao,co,fr,some ⟨gK,0,none⟩,kc',ls++ [txT1 t.tx],f,by have h9:=HF7.out;rw[<-HCM.out]at h9;exact h9,HFR.out,by rw[zn,HLS.out];show _++ [TT.ch _]=_;rw[zbC],fun x=>HF.out x⟩,by rw[HST.out];show mn+s.anc.length<=_;omega,by have h9:=HB7.out;rw[<-HCM.out]at h9;exact h9⟩
        refine' ReadyL.cons ?o41 (fun K hK=>?s41) ReadyL.nil
        case o41=>simp only[zlD,zlF,zlE];rfl
        go_simp
        refine hK.out _ _ (.inl (by decide)) ?_
        clear hK K
        try simp only[Act.put,zlA,zlB,zlC]
        refine za (rs:=[10]) (by kernel_rfl) (by simp) ?_
        refine' ReadyL.cons ?o42 (fun K hK=>?s42) ReadyL.nil
        case o42=>simp only[zlD,zlF,zlE];rfl
        go_simp
        refine hK.out _ _ (.inl (by decide)) ?_
        clear hK K
        try simp only[Act.put,zlA,zlB,zlC]
        refine za (rs:=[11]) (by kernel_rfl) (by simp) ?_
        refine' ReadyL.cons ?o43 (fun K hK=>?s43) ReadyL.nil
        case o43=>simp only[zlD,zlF,zlE];rfl
        go_simp
        refine hK.out _ _ (.inl (by decide)) ?_
        clear hK K
        try simp only[Act.put,zlA,zlB,zlC]
        refine zg (by kernel_rfl) ?_ _
        go_wp2_with fail
        go_end0
        exact⟨rfl,mn,by rw[HST.out];exact⟨Ao,co,fr,some ⟨gK,0,none⟩,kc',ls++ [txT1 t.tx],f,by have h9:=HF7.out;rw[<-HCM.out]at h9;exact h9,HFR.out,by rw[zn,HLS.out];show _++ [TT.ch _]=_;rw[zbC],fun x=>HF.out x⟩,by rw[HST.out];show mn+s.anc.length<=_;omega,by have h9:=HB7.out;rw[<-HCM.out]at h9;exact h9⟩
      . have x3:(t.kind == 3)=false:=by rw[beq_eq_false_iff_ne];exact h3
        have HST:Hid (zbo s t.ch=s):=zhH (fun k=>absurd k h1) (fun k=>absurd k h2) h3
        clear h1 h2 h3
        go_wp2_with fail
        go_end0
        exact⟨rfl,mn,by rw[HST.out];exact HR0.out,by rw[HST.out];omega,HB0.out⟩
end Go.Proofs.YtddgabjhligeeaaGreat.mk
namespace Go.Proofs.YtddgabjhligeeaaGreat.mk
open Go.RowKit Go.Maps
theorem zeC{L:List KP}{k:Nat}{t:KP}(h:L[k]?=some t):runB zaU (L.take (k+1))=zbo (runB zaU (L.take k)) t:=by
  unfold runB
  rw[zw h,List.foldl_append]
  rfl
theorem zmo(L:List KP):∀ k,bkB (runB zaU (L.take k))+kbL (L.drop k)<=1+kbL L:=by
  intro k
  induction k with
  | zero=>
    rw[List.take_zero,List.drop_zero]
    have h1:bkB (runB zaU [])=1:=by
      show(PT.mk [] [] [] []).bk+bkL []+bkL []=1
      rw[znJ,zdq]
      rfl
    omega
  | succ k ih=>
    cases h:L[k]? with
    | none=>
      have h1:L.take (k+1)=L.take k:=by
        have:=List.getElem?_eq_none_iff.1 h
        rw[List.take_of_length_le (by omega),List.take_of_length_le this]
      rw[h1,List.drop_of_length_le (by have:=List.getElem?_eq_none_iff.1 h;omega)]
      have h2:kbL ([]:List KP)=0:=rfl
      omega
    | some t=>
      have h1:=znL (runB zaU (L.take k)) t
      have h2:=ziF h
      rw[zeC h]
      omega
structure ToksIn (S:Nat->Prop) (w:World) (A:Option Addr) (n:Nat) (ts:List KT):Prop where
  lies:LiesS S w A (zdn ts)
  all:∀ t∈ts,t.inS S w
  len:ts.length=n
  bulk:kbL (ts.map KT.ch)<=1048575
theorem ToksIn.keep{S:Nat->Prop}{w w':World}{A:Option Addr}{n:Nat}{ts:List KT}(h:ToksIn S w A n ts)(hs:Stays S w w'):ToksIn S w' A n ts:=⟨h.lies.keep hs,fun t ht=>(h.all t ht).keep hs,h.len,h.bulk⟩
def zgb(S:Nat->Prop)(base g bm n:Nat)(L:List KP)(w0:World)(i:Value)(wr:World):Prop:=
  ∃ k mn:Nat,k<=n/\i=.int .i64 (k:Int)/\BldR S wr base g bm mn (runB zaU (L.take k))/\mn+(runB zaU (L.take k)).anc.length<=2 * k/\Below base w0 wr
theorem zoa(L:List KP):L.length<=kbL L:=by
  induction L with
  | nil=>exact Nat.zero_le _
  | cons t L ih=>
    have h1:kbL (t::L)=t.bk+kbL L:=by unfold kbL;rw[List.map_cons,List.sum_cons]
    have h2:1<=t.bk:=by unfold KP.bk;omega
    rw[List.length_cons]
    omega
theorem BldM.aside{S:Nat->Prop}{w w':World}{base g bm co cl mn:Nat}{Ao Al:Option Addr}{fr ls:List TT}{f:List UInt8->Int}(h:BldM S w base g bm Ao co fr Al cl ls mn f){r:Nat}(hr:r < base)(hS:¬ S r)(hz:w.heap.size<=w'.heap.size)(hb:∀ b,b≠r->b < w.heap.size->w'.heap[b]?=w.heap[b]?):BldM S w' base g bm Ao co fr Al cl ls mn f:=by
  have hst:∀ P:Nat->Prop,(∀ b,P b->b≠r)->Stays P w w':=fun P hP=>⟨hz,fun b h1 hl=>hb b (hP b h1) hl⟩
  have hfar:∀ {n c:Nat} {A:Option Addr} {xs:List Value},w.ownsRow base 48 6 (.slice A n c) n xs->w'.ownsRow base 48 6 (.slice A n c) n xs:=fun ho=>
    zax ho fun k hk=>hb k (by have:=(ho.lt k hk).1;omega) (ho.lt k hk).2
  have hg:=h.gb
  refine⟨h.box.same (hb g (by omega) h.box.lt),hfar h.opn,hfar h.loo,fun x hx=>hfar (h.kid x hx),h.ap1,h.ap2,h.ap3,fun x hx=>(h.head x hx).keep (hst _ fun b h1 e=>h1 (.inr (.inr (.inr (.inr (.inr (by omega))))))),fun x hx=>(h.kids x hx).keep (hst _ fun b h1 e=>h1 (.inr (.inr (.inr (.inr (.inr (by omega))))))),h.lso.keep (hst S fun b h1 e=>hS (e ▸ h1)),h.inp,h.map.same (hb bm (by omega) h.map.lt),h.gb,Nat.le_trans h.bw hz⟩
theorem zkb(u:World):(Instr.makeSlice 27 (.int .i64 1) (.int .i64 1)).run Tryz.prog u=.ok (.slice (some ⟨u.heap.size,0,none⟩) 1 1) (u.alloc (.cells (ze [zeroTT]).toArray 48)):=by kernel_rfl
theorem zmp{S:Nat->Prop}(A:Option Addr)(n c:Nat)(ts:List KT)(w:World)(h:ToksIn S w A n ts)(hS:∀ b,S b->b < w.heap.size) :
    Calls Tryz.prog 30 #[.slice A n c] w fun e w'=>∃ (g bm:Nat) (Ao:Option Addr) (co:Nat) (fr:List TT) (Al:Option Addr) (cl:Nat) (ls:List TT) (mn:Nat) (f:List UInt8->Int),e=.returned (.agg #[.slice Ao fr.length co,.slice Al ls.length cl,.map (some bm)])/\BldM S w' (w.heap.size+1) g bm Ao co fr Al cl ls mn f/\chL fr=(runB zaU (ts.map KT.ch)).anc.reverse++ [(runB zaU (ts.map KT.ch)).top]/\chL ls=(runB zaU (ts.map KT.ch)).loose/\(∀ x,f x=((runB zaU (ts.map KT.ch)).names.count x:Int))/\mn<=2 * n/\Below w.heap.size w w':=by
  have hmm:=@run_makeMap Tryz.prog
  have H:=Lib.hid h
  have hn:=zoa (ts.map KT.ch)
  rw[List.length_map,h.len]at hn
  have hbk:=h.bulk
  clear h
  go_enter Tryz.func30,Tryz.ntmps30
  have hmk:=zkb
  go_wp2_with fail
  generalize hw0:(((w.alloc (.cells #[.slice none 0 0,.slice none 0 0,.map none] 58)).alloc (.cells (ze [zeroTT]).toArray 48)).alloc (.map #[] 0)).alloc (.cells #[.slice (some ⟨w.heap.size+1,0,none⟩) 1 1,.slice none 0 0,.map (some (w.heap.size+1+1))] 58)=w0
  have hz0:w0.heap.size=w.heap.size+4:=by rw[<-hw0];simp
  have hb0:Below w.heap.size w w0:=by rw[<-hw0];exact((((Below.refl _ _).alloc (Nat.le_refl _) _).alloc (by simp) _).alloc (by simp;omega) _).alloc (by simp;omega) _
  have yr:Whole w0 w.heap.size 58 #[.slice none 0 0,.slice none 0 0,.map none]:=by rw[<-hw0];exact(((Whole.made w _ _).alloc _).alloc _).alloc _
  have yo:Whole w0 (w.heap.size+1) 48 (ze [zeroTT]).toArray:=by
    rw[<-hw0]
    have h:=Whole.made (w.alloc (.cells #[.slice none 0 0,.slice none 0 0,.map none] 58)) 48 (ze [zeroTT]).toArray
    simp only[World.size_alloc]at h
    exact(h.alloc _).alloc _
  have yg:Whole w0 (w.heap.size+1+1+1) 58 #[.slice (some ⟨w.heap.size+1,0,none⟩) 1 1,.slice none 0 0,.map (some (w.heap.size+1+1))]:=by
    rw[<-hw0]
    have h:=Whole.made (((w.alloc (.cells #[.slice none 0 0,.slice none 0 0,.map none] 58)).alloc (.cells (ze [zeroTT]).toArray 48)).alloc (.map #[] 0)) 58 #[.slice (some ⟨w.heap.size+1,0,none⟩) 1 1,.slice none 0 0,.map (some (w.heap.size+1+1))]
    simp only[World.size_alloc]at h
    exact h
  have ym:MapF w0 (w.heap.size+1+1) 0 (fun _=>0):=by
    rw[<-hw0]
    have h:=MapF.made ((w.alloc (.cells #[.slice none 0 0,.slice none 0 0,.map none] 58)).alloc (.cells (ze [zeroTT]).toArray 48))
    simp only[World.size_alloc]at h
    exact h.below ((Below.refl _ _).alloc (Nat.le_refl _) _)
  have hK:zeroTT.K=none:=rfl
  have hM0:BldM S w0 (w.heap.size+1) (w.heap.size+1+1+1) (w.heap.size+1+1) (some ⟨w.heap.size+1,0,none⟩) 1 [zeroTT] none 0 [] 0 (fun _=>0):=by
    refine⟨yg,⟨rfl,.inr ⟨w.heap.size+1,1,_,rfl,Nat.le_refl _,yo,Nat.le_refl _,by decide,rfl,rfl⟩⟩,World.ownsRow_nil _ _ _ _,?_,?_,?_,by simp,?_,?_,AllS.nil _ _,fun b hb=>by have:=hS b hb;omega,ym,⟨by omega,by omega⟩,by omega⟩
    . intro x hx
      obtain rfl:=List.mem_singleton.1 hx
      exact World.ownsRow_nil _ _ _ _
    . intro b _
      refine⟨(fun e=>by cases e),fun x hx e=>?_⟩
      obtain rfl:=List.mem_singleton.1 hx
      cases e
    . intro b hb
      cases hb
    . intro x hx
      obtain rfl:=List.mem_singleton.1 hx
      exact⟨ziI _ _,ziI _ _,rfl,LiesS.nil _ _ _,rfl,fun _=>rfl,Nat.zero_le _,fun a ha=>by cases ha⟩
    . intro x hx
      obtain rfl:=List.mem_singleton.1 hx
      exact AllS.nil _ _
  have HST:Hid (zgb S (w.heap.size+1) (w.heap.size+1+1+1) (w.heap.size+1+1) n (ts.map KT.ch) w0 (.int .i64 0) w0):=
    ⟨0,0,Nat.zero_le _,rfl,⟨_,_,_,_,_,_,_,hM0,rfl,rfl,fun x=>rfl⟩,by rw[List.take_zero];exact Nat.le_refl _,Below.refl _ _⟩
  have HY:=Lib.hid yr
  have HBB:=Lib.hid hb0
  have H0:=Lib.hid (H.out.keep (Stays.of hb0))
  have hinp:Hid (∀ b,S b->b < w.heap.size):=hS
  generalize hg:w.heap.size+1+1+1=g at *
  generalize hbm:w.heap.size+1+1=bm at *
  generalize hbase:w.heap.size+1=base at *
  have hbz:w.heap.size < base:=by omega
  have HBASE:=Lib.hid hbase
  clear hw0 yr yo yg ym hM0 hK hmm hmk hb0 hS hg hbm hbase hz0
  go_loopw [11] (zgb S base g bm n (ts.map KT.ch) w0) (fun i _=>n - (intOf i).toNat)
  case atStart=>exact HST.out
  case round=>
    obtain⟨k,mn,hk,rfl,hr,hmn,hbw⟩:=hrel
    have HR:=Lib.hid hr
    have HBW:=Lib.hid hbw
    have hst:Stays S w0 wr:=⟨hbw.size,fun b hb _=>hbw.block b (by have:=hinp.out b hb;omega)⟩
    have HI:=Lib.hid (H0.out.keep hst)
    have hk0:(0:Int)<=(k:Int):=Int.natCast_nonneg _
    clear hr hbw hst
    by_cases hlt:k < n
    . obtain⟨ad,t,rfl,hba,d0,d1,d2,d3,d4,d5,d6,HT⟩:=HI.out.lies.lies.kt (k:=k) (by rw[HI.out.len];exact hlt)
      have hk1:(k:Int) < (n:Int):=by omega
      have HTC:Hid ((ts.map KT.ch)[k]?=some t.ch):=by show _=_;rw[List.getElem?_map,HT.out];rfl
      have hbr:=zmo (ts.map KT.ch) k
      rw[ziF HTC.out]at hbr
      have HTI:Hid (t.inS S wr):=HI.out.all t (List.mem_of_getElem? HT.out)
      go_upto_region 5 with fail
      generalize hw1:wr.alloc (.cells #[.int .i64 t.kind,.string t.nm.s,.slice t.nm.A t.nm.n t.nm.c,.slice t.A t.n t.c,.bool t.close,.string t.tx.s,.slice t.tx.A t.tx.n t.tx.c] 98)=w1
      have y1:Whole w1 wr.heap.size 98 #[.int .i64 t.kind,.string t.nm.s,.slice t.nm.A t.nm.n t.nm.c,.slice t.A t.n t.c,.bool t.close,.string t.tx.s,.slice t.tx.A t.tx.n t.tx.c]:=by rw[<-hw1];exact Whole.made _ _ _
      have hb1:Below wr.heap.size wr w1:=by rw[<-hw1];exact(Below.refl _ _).alloc (Nat.le_refl _) _
      have HTK:=Lib.hid (zmn t w1 (HR.out.below hb1) (HTI.out.keep (Stays.of hb1)) (by omega) (by omega))
      have hbwr:base<=wr.heap.size:=by obtain⟨_,_,_,_,_,_,_,hM,_⟩:=HR.out;exact hM.bw
      have HB1:Hid (Below base w0 w1):=HBW.out.trans (hb1.mono hbwr)
      have e0:=y1.at_ 0
      have e1:=y1.at_ 1
      have e2:=y1.at_ 2
      have e3:=y1.at_ 3
      have e4:=y1.at_ 4
      have e5:=y1.at_ 5
      have e6:=y1.at_ 6
      clear hw1 hb1 y1 d0 d1 d2 d3 d4 d5 d6 hbr
      go_wp2_with fail
      refine HTK.out.mono ?_
      rintro e w2 ⟨rfl,mn',hr2,hm2,hb2⟩
      have HREL:Hid (zgb S base g bm n (ts.map KT.ch) w0 (.int .i64 ((k:Int)+1)) w2):=by
        refine⟨k+1,mn',by omega,by go_num,?_,?_,HB1.out.trans hb2⟩
        . rw[zeC HTC.out];exact hr2
        . rw[zeC HTC.out];omega
      clear hr2 hm2 hb2 HTK
      go_wp2_with fail
      go_roundw
      case rel=>exact HREL.out
      case measure=>simp [intOf];omega
    . obtain rfl:k=n:=by omega
      have HTA:Hid ((ts.map KT.ch).take k=ts.map KT.ch):=List.take_of_length_le (by rw[List.length_map,H.out.len];exact Nat.le_refl _)
      have hk1:¬ (k:Int) < (k:Int):=by omega
      obtain⟨Ao,co,fr,Al,cl,ls,f,hM,hfr,hls,hf⟩:=HR.out
      have HM:=Lib.hid hM
      have HC:=Lib.hid (And.intro hfr (And.intro hls hf))
      have yr:=HY.out.below HBW.out hbz
      have d0:=hM.at0
      have d1:=hM.at1
      have d2:=hM.at2
      have r0:=yr.at_ 0
      have r1:=yr.at_ 1
      have r2:=yr.at_ 2
      have rf:=fun i=>yr.free i
      clear hM hfr hls hf
      go_wp2_with fail
      refine bodyPost_ret (v:=.agg #[.slice Ao fr.length co,.slice Al ls.length cl,.map (some bm)]) ?_ rfl ?_
      . simp [results,Tryz.results30,go_sem,r0,r1,r2]
      . have hM:=HM.out
        have hc:=HC.out
        rw[HTA.out]at hc
        obtain⟨hfr,hls,hf⟩:=hc
        refine⟨g,bm,Ao,co,fr,Al,cl,ls,rfl,mn,f,?_,hfr,hls,hf,by omega,?_⟩
        . obtain rfl:=HBASE.out
          refine hM.aside hbz (fun e=>by have:=hinp.out _ e;omega) (by simp only[World.size_setCell];exact Nat.le_refl _) fun b hb _=>?_
          rw[Below.heap_setCell _ _ _ _ hb,Below.heap_setCell _ _ _ _ hb,Below.heap_setCell _ _ _ _ hb]
        . refine(((?_:Below _ _ _).setCell (p:=⟨w.heap.size,0,none⟩) (Nat.le_refl _) _).setCell (p:=⟨w.heap.size,1,none⟩) (Nat.le_refl _) _).setCell (p:=⟨w.heap.size,2,none⟩) (Nat.le_refl _) _
          exact HBB.out.trans (HBW.out.mono (by omega))
theorem BldM.rebox{S:Nat->Prop}{w:World}{base g bm co cl mn:Nat}{Ao Al:Option Addr}{fr ls:List TT}{f:List UInt8->Int}(h:BldM S w base g bm Ao co fr Al cl ls mn f):BldM S (w.alloc (.cells #[.slice Ao fr.length co,.slice Al ls.length cl,.map (some bm)] 58)) base w.heap.size bm Ao co fr Al cl ls mn f:=by
  have hb:Below w.heap.size w (w.alloc (.cells #[.slice Ao fr.length co,.slice Al ls.length cl,.map (some bm)] 58)):=(Below.refl _ _).alloc (Nat.le_refl _) _
  have h2:=h.below hb
  have hL:∀ b,¬ Live base g bm Ao Al fr b->b < w.heap.size->¬ Live base w.heap.size bm Ao Al fr b:=by
    intro b h1 hl h2
    rcases h2 with e | e
    . omega
    . exact h1 (.inr e)
  exact⟨Whole.made _ _ _,h2.opn,h2.loo,h2.kid,h.ap1,h.ap2,h.ap3,fun x hx=>((h.head x hx).mono hL).keep (Stays.of hb),fun x hx=>((h.kids x hx).mono hL).keep (Stays.of hb),h2.lso,h.inp,h2.map,⟨h.bw,h.gb.2⟩,h2.bw⟩
theorem zic:∀ (anc:List PT) (top:PT) (loose:List PT),bkL (zcT top loose anc)<=bkB ⟨top,loose,anc⟩:=by
  intro anc
  induction anc with
  | nil=>
    intro top loose
    have h1:=zbY loose
    show bkL (top.kids++ zp loose)<=top.bk+bkL []+bkL loose
    rw[zN,PT.bk_eq top,zdq]
    omega
  | cons a anc ih=>
    intro top loose
    exact Nat.le_trans (ih _ _) (zf6 top loose a anc)
def zgc(S:Nat->Prop)(base g bm N:Nat)(q:List PT)(w0 wr:World):Prop:=
  ∃ (s:BS) (mn:Nat),BldR S wr base g bm mn s/\mn+s.anc.length<=N/\zcT s.top s.loose s.anc=q/\bkB s<=1048576/\Below base w0 wr
theorem zmq{S:Nat->Prop}(A:Option Addr)(n c:Nat)(ts:List KT)(w:World)(h:ToksIn S w A n ts)(hS:∀ b,S b->b < w.heap.size) :
    Calls Tryz.prog 10 #[.slice A n c] w fun e w'=>∃ (K:Option Addr) (kn kc:Nat) (kids:List TT),e=.returned (.slice K kn kc)/\TreesIn0 w' K kn kids/\chL kids=zcU (ts.map KT.ch)/\Below w.heap.size w w':=by
  have HBT:=Lib.hid (zmp A n c ts w h hS)
  have hn:=zoa (ts.map KT.ch)
  have hbk:=h.bulk
  rw[List.length_map,h.len]at hn
  have hbr:=zmo (ts.map KT.ch) n
  rw[List.take_of_length_le (by rw[List.length_map,h.len];exact Nat.le_refl _)]at hbr
  clear h hS
  go_enter Tryz.func10,Tryz.ntmps10
  go_wp2_with fail
  refine HBT.out.mono ?_
  rintro e w1 ⟨g1,bm,Ao,co,fr,Al,cl,ls,mn,f,rfl,hM,hfr,hls,hf,hmn,hb1⟩
  have hz1:=hM.bw
  have hal:(runB zaU (ts.map KT.ch)).anc.length<=1048576:=by
    have h1:=zau (runB zaU (ts.map KT.ch)).anc
    have h2:bkB (runB zaU (ts.map KT.ch))=(runB zaU (ts.map KT.ch)).top.bk+bkL (runB zaU (ts.map KT.ch)).anc+bkL (runB zaU (ts.map KT.ch)).loose:=rfl
    omega
  have hr:BldR S (w1.alloc (.cells #[.slice Ao fr.length co,.slice Al ls.length cl,.map (some bm)] 58)) (w.heap.size+1) w1.heap.size bm mn (runB zaU (ts.map KT.ch)):=⟨Ao,co,fr,Al,cl,ls,f,hM.rebox,hfr,hls,hf⟩
  have hb2:Below w.heap.size w (w1.alloc (.cells #[.slice Ao fr.length co,.slice Al ls.length cl,.map (some bm)] 58)):=hb1.alloc (by omega) _
  generalize hw2:w1.alloc (.cells #[.slice Ao fr.length co,.slice Al ls.length cl,.map (some bm)] 58)=w2 at hr hb2
  have HST:Hid (zgc S (w.heap.size+1) w1.heap.size bm 4000000 (zcU (ts.map KT.ch)) w2 w2):=⟨_,mn,hr,by omega,rfl,by omega,Below.refl _ _⟩
  have HB2:=Lib.hid hb2
  have hgb:w.heap.size+1<=w1.heap.size:=hz1
  generalize hg:w1.heap.size=g at *
  generalize hbase:w.heap.size+1=base at *
  have hbz:w.heap.size<=base:=by omega
  go_wp2_with fail
  clear hM hfr hls hf hmn hb1 hz1 hr hb2 hw2 hbr hal hbk hn hg hbase
  go_loopw [] (zgc S base g bm 4000000 (zcU (ts.map KT.ch)) w2) (fun wr=>openN g wr)
  case atStart=>exact HST.out
  case round=>
    obtain⟨s',mn',hr,hmm,hcl,hbk,hbw⟩:=hrel
    obtain⟨top,loose,anc⟩:=s'
    have HCL:Hid (zcT top loose anc=zcU (ts.map KT.ch)):=hcl
    have HBW:=Lib.hid hbw
    clear hcl hbw
    cases anc with
    | nil=>
      obtain⟨Ao',co',fr',Al',cl',ls',f',hM,hfr,hls,hf⟩:=hr
      obtain⟨fs,t,rfl,hfs,ht⟩:=zbR hfr
      have hf0:fs=[]:=by
        have:=congrArg List.length hfs
        rw[zv]at this
        exact List.length_eq_zero_iff.1 this
      subst hf0
      have d0:wr.cell? ⟨g,0,none⟩=some (.slice Ao' 1 co'):=hM.at0
      have k1:=znM hM (x:=t) (by simp)
      have hbk':top.bk+bkL ([]:List PT)+bkL loose<=1048576:=hbk
      have ht:t.ch=top:=ht
      have hls:chL ls'=loose:=hls
      rw[ht]at k1
      have HSE:=Lib.hid (zdo wr hM (by rw[hls];omega) (by omega) (by show 0<=_;omega))
      have HX:Hid (t.ch=top/\chL ls'=loose):=⟨ht,hls⟩
      clear hM hfr hf hfs ht hls k1
      go_wp2_with fail
      refine HSE.out.mono ?_
      rintro e w3 ⟨rfl,K',kc',ms,hM3,hms,hb3,_⟩
      obtain⟨bo,rfl,hbo,_,_,_,k3,_⟩:=hM3.cellsL
      have c0:w3.cell? ⟨g,0,none⟩=some (.slice (some ⟨bo,0,none⟩) 1 co'):=hM3.at0
      have k3:w3.cell? ⟨bo,3,none⟩=some (.slice K' (t.kn+ms.length) kc'):=k3
      have HM3:=Lib.hid hM3
      have HMS:=Lib.hid hms
      have HB3:=Lib.hid hb3
      clear hM3 hms hb3 HSE
      go_wp2_with fail
      go_ret
      have hM3:=HM3.out
      obtain⟨hX1,hX2⟩:=HX.out
      have hxm:t.withK K' (t.kn+ms.length) kc' (t.kids++ ms)∈[]++ [t.withK K' (t.kn+ms.length) kc' (t.kids++ ms)]:=by simp
      have hq:chL (t.kids++ ms)=zcU (ts.map KT.ch):=by
        rw[zn,HMS.out,hX2,<-HCL.out,<-TT.ch_kids,hX1]
        rfl
      have hbk3:=zic [] top loose
      refine⟨K',t.kn+ms.length,kc',t.kids++ ms,rfl,⟨?_,?_,?_,?_⟩,hq,(HB2.out.trans (HBW.out.mono hbz)).trans (HB3.out.mono hbz)⟩
      . exact(zbZ (hM3.kid _ hxm)).mono fun _ _ h=>h
      . exact(hM3.kids _ hxm).mono fun _ _ h=>h
      . exact hM3.kln hxm
      . rw[hq,<-HCL.out]
        exact Nat.le_trans hbk3 hbk
    | cons a anc=>
      have hon:=hr.openN
      have hal:anc.length+1<=1048576:=by
        have h1:=zau (a::anc)
        have h2:bkB ⟨top,loose,a::anc⟩=top.bk+bkL (a::anc)+bkL loose:=rfl
        rw[List.length_cons]at h1
        omega
      have hmm':mn'+(anc.length+1)<=4000000:=hmm
      obtain⟨Ao',co',fr',Al',cl',ls',f',hM,hfr,hls,hf⟩:=id hr
      have hlf:fr'.length=anc.length+2:=by
        have:=congrArg List.length hfr
        rw[zv,List.length_append,List.length_reverse,List.length_cons]at this
        exact this
      have d0:wr.cell? ⟨g,0,none⟩=some (.slice Ao' fr'.length co'):=hM.at0
      have hgt:(1:Int) < (fr'.length:Int):=by omega
      generalize hm:fr'.length=m at d0 hgt
      have HEND:=Lib.hid (zpY wr hr hbk (by omega))
      have hbk1:=zf6 top loose a anc
      clear hM hfr hls hf hlf hr hm
      go_wp2_with fail
      refine HEND.out.mono ?_
      rintro e w3 ⟨rfl,hr3,hb3⟩
      have hon3:=hr3.openN
      have HREL:Hid (zgc S base g bm 4000000 (zcU (ts.map KT.ch)) w2 w3):=⟨_,mn'+1,hr3,by show mn'+1+anc.length<=_;omega,HCL.out,Nat.le_trans hbk1 hbk,HBW.out.trans hb3⟩
      clear hr3 hb3 HEND
      go_wp2_with fail
      go_roundw
      case rel=>exact HREL.out
      case measure=>
        rw[hon,hon3]
        show anc.length+1 < (a::anc).length+1
        rw[List.length_cons]
        omega
end Go.Proofs.YtddgabjhligeeaaGreat.mk
