import Derived.Test.YtddgabjhligeeaaGreatJnAU
import Derived.Test.YtddgabjhligeeaaGreatJnAV
import Derived.Test.YtddgabjhligeeaaGreatJnI
set_option maxHeartbeats 8000000
set_option maxRecDepth 100000
namespace Go.Proofs.YtddgabjhligeeaaGreat.mk
open Go.RowKit Go.Maps
attribute [local go_sem] Oper.semAt_some zbE zap
theorem zlY{K:Act->World->Prop}{Q:Exit->Act->World->Prop}(h:∀ a w,¬ Q .outgrown a w):¬ LetsOut (Exit.then K Q):=by
  rintro⟨a,w,h2⟩
  exact h a w h2
theorem zjW(Q:List PT):(sibs Q).length<=bkL Q:=by
  have h1:(zp Q).length=(sibs Q).length:=by rw[zda,List.length_map]
  rw[<-h1]
  exact Nat.le_trans (zkx _) (zfU Q)
theorem zjX{F:Nat}{g:Ch->Ch}(hF:AsF F g)(g0:g []=[]):∀ (Q:List PT) (S:Nat->Prop) (A:Option Addr) (n c:Nat) (ts:List TT) (w:World),chL ts=Q->bkL Q<=1048576->LiesS S w A (ze ts)->AllS S w ts->ts.length=n->(∀ b,S b->b < w.heap.size)->
    Calls Tryz.prog 57 #[.slice A n c,.func (.func F) #[] #[]] w (zeZ (fun b=>w.heap.size<=b) (mapL g (zp Q)) w):=by
  obtain⟨i0,hi,hiz0,hiz1,hiz2⟩:=info_parts zbL
  have HF:=Lib.hid hF
  have HG0:=Lib.hid g0
  clear hF g0
  apply PT.lt_ind
  intro Q IH S A n c ts w hq hbk hl hok hn hS
  have HIH:=Lib.hid IH
  have HQ:=Lib.hid hq
  have HL:=Lib.hid hl
  have HOK:=Lib.hid hok
  have HN:=Lib.hid hn
  have HS:=Lib.hid hS
  clear IH hq hl hok hn hS
  refine callsIn_wide.1 (callsIn_of_wp_marks (n:=1) Tryz.func57 rfl trivial ?_ rfl)
  simp only[Tryz.ntmps57,List.size_toArray,List.length_cons,List.length_nil,Nat.reduceAdd,Nat.reduceSub,Array.replicate_succ,Array.replicate_zero,List.push_toArray,List.append_toArray,List.nil_append,List.cons_append]
  generalize hw3:(w.alloc (.cells #[.func (.func F) #[] #[]] 34)).alloc (.cells #[.slice none 0 0] 27)=w3
  have hz3:w3.heap.size=w.heap.size+2:=by rw[<-hw3];simp
  have hb3:Below w.heap.size w w3:=by rw[<-hw3];exact((Below.refl _ _).alloc (Nat.le_refl _) _).alloc (by simp) _
  have y2:Whole w3 w.heap.size 34 #[.func (.func F) #[] #[]]:=by rw[<-hw3];exact(Whole.made w _ _).alloc _
  have y3:Whole w3 (w.heap.size+1) 27 #[.slice none 0 0]:=by
    rw[<-hw3]
    have h:=Whole.made (w.alloc (.cells #[.func (.func F) #[] #[]] 34)) 27 #[.slice none 0 0]
    simp only[World.size_alloc]at h
    exact h
  gi_wp2_with fail
  refine callsIn_wide.2 ((zdE A n c w3).mono ?_)
  rintro e w4 ⟨rfl,hc4,hlt4,hb4⟩
  rw[hz3]at hc4 hlt4
  have Y2:=Lib.hid (y2.below hb4 y2.lt)
  have Y3:=Lib.hid (y3.below hb4 y3.lt)
  have HB4:Hid (Below w.heap.size w w4):=zf hb3 (Nat.le_refl _) hb4
  have HC4:=Lib.hid hc4
  have hst4:Stays S w w4:=Stays.of HB4.out
  have HL4:=Lib.hid (HL.out.keep hst4)
  have HO4:=Lib.hid (HOK.out.keep hst4)
  clear hw3 hb3 hb4 y2 y3 hc4 hst4
  gi_wp2_with fail
  have hbq:bkL (chL ts)<=1048576:=by rw[HQ.out];exact hbk
  refine zei (gf:=137) (lb:=#[.pointer (some ⟨w.heap.size+2,0,none⟩)]) (encs:=encT) (Sh:=ShT S) (okp:=fun p=>chL p <+: sibs (chL ts)) (done:=fun xs=>chL xs=sibs (chL ts)) (S:=S) rfl (fun _ _=>rfl) ?gives (fun _=>rfl) (zfX g (w.heap.size+1) w4) (fun b=>b=w.heap.size+1) (fun b hb=>?hS) (fun b hb=>?hK0) zjV ?h0 ?round ?done
  case gives=>
    intro W' hb
    have hst:Stays S w4 W':=Stays.of hb
    exact zff ((hb.cell (p:=⟨w.heap.size+2,0,none⟩) hlt4).trans HC4.out) (HL4.out.keep hst) (HO4.out.keep hst) HN.out (fun b h=>by have:=HS.out b h;have:=hb.size;omega) hbq
  case hS=>have:=HS.out b hb;omega
  case hK0=>subst hb;exact⟨by omega,fun h=>by have:=HS.out _ h;omega⟩
  case h0=>exact⟨_,[],Y3.out,World.ownsRow_nil _ _ _ _,(fun g h=>by cases h),AllS.nil _ _,⟨rfl,(fun x hx=>by cases hx),fun _=>rfl⟩,rfl,(fun b h=>by omega),Moved.refl _ _⟩
  case round=>
    rintro l pre K G x W1 ⟨v,us,hy,hown,hg,hus,he,hkb,hkl,hm⟩ hsh hokx hl1 hl2 hkl2 hgl hks hG
    have hz41:w4.heap.size<=W1.heap.size:=hm.size
    have hzb:us.length<=1048576:=by
      have h1:=hokx.length_le
      rw[zn,List.length_append]at h1
      have h2:=congrArg List.length he.1
      rw[zv,List.length_map]at h2
      have h3:=zjW (chL ts)
      omega
    have hmem:x.ch∈sibs (chL ts):=hokx.subset (by rw[zn,chL,chL];simp)
    have hlt:=zn7 hmem
    rw[TT.ch_kids,HQ.out]at hlt
    have HLT:=Lib.hid hlt
    have HOS:=Lib.hid (zkK hmem).1
    unfold encT
    generalize hw2:W1.alloc (.cells #[.string x.tag.s,.slice x.tag.A x.tag.n x.tag.c,.slice x.A x.n x.c,.slice x.K x.kn x.kc,.string x.text.s,.slice x.text.A x.text.n x.text.c] 48)=W2
    have y2:Whole W2 W1.heap.size 48 #[.string x.tag.s,.slice x.tag.A x.tag.n x.tag.c,.slice x.A x.n x.c,.slice x.K x.kn x.kc,.string x.text.s,.slice x.text.A x.text.n x.text.c]:=by rw[<-hw2];exact Whole.made _ _ _
    have hb2:Below W1.heap.size W1 W2:=by rw[<-hw2];exact(Below.refl _ _).alloc (Nat.le_refl _) _
    have hz2:=y2.lt
    have HFIN0:Hid (∀ W3,Moved (fun b=>b=l) W2 W3->W1.heap.size < W3.heap.size/\Whole W3 W1.heap.size 48 #[.string x.tag.s,.slice x.tag.A x.tag.n x.tag.c,.slice x.A x.n x.c,.slice x.K x.kn x.kc,.string x.text.s,.slice x.text.A x.text.n x.text.c]/\
        Whole W3 w.heap.size 34 #[.func (.func F) #[] #[]]/\Whole W3 (w.heap.size+1) 27 #[v]/\W3.ownsRow w4.heap.size 48 6 v us.length (ze us)/\AllS (fun b=>K b/\b≠w.heap.size+1/\v.ownBlock≠some b) W3 us/\Moved (fun i=>w.heap.size+1<=i) w4 W3/\ShT S x G W3):=by
      intro W3 hm3
      have hm13:Moved (fun b=>b=l) W1 W3:=(Moved.of_below hb2).join hm3 fun _ _ h=>h
      have hm43:Moved (fun i=>w.heap.size+1<=i) w4 W3:=hm.join hm13 fun i hi h=>by omega
      exact⟨Nat.lt_of_lt_of_le hz2 hm3.size,hm3.whole y2 (fun h=>by omega),hm43.whole Y2.out (fun h=>by omega),hm13.whole hy (fun h=>by omega),hm13.own hown (fun i hi h=>hkl2 (h ▸ hg i hi)),hus.keep (hm13.stays fun i _ h h2=>hkl2 (h2 ▸ h.1)),hm43,hsh.moved (hm13.mono fun i _ h=>by rintro(h2 | h2);have:=HS.out i h2;omega;exact hgl (h ▸ h2))⟩
    have HG:=Lib.hid hg
    have HE:=Lib.hid he
    have HKB:=Lib.hid hkb
    have HKL:=Lib.hid hkl
    obtain⟨A5,c5,rfl,_,_,_⟩:=zh hown
    clear hy hown hg hus he hkb hkl hm hsh hokx hks hG hlt hmem
    gi_wp2_with fail
    refine⟨hb2,fun W3 hm3=>?_⟩
    obtain⟨hz13,z3,v2,v3,hown3,hus3,hm43,hsh3⟩:=HFIN0.out W3 hm3
    have HOWN3:=Lib.hid hown3
    have HUS3:=Lib.hid hus3
    have HM43:=Lib.hid hm43
    have HSH3:=Lib.hid hsh3
    have HV3:=Lib.hid v3
    have HV2:=Lib.hid v2
    have HZ3:=Lib.hid z3
    have hzm3:=hm3.size
    have e0:W3.cell? ⟨W1.heap.size,0,none⟩=some (.string x.tag.s):=z3.at_ 0
    have e1:W3.cell? ⟨W1.heap.size,1,none⟩=some (.slice x.tag.A x.tag.n x.tag.c):=z3.at_ 1
    have e2:W3.cell? ⟨W1.heap.size,2,none⟩=some (.slice x.A x.n x.c):=z3.at_ 2
    have e3:W3.cell? ⟨W1.heap.size,3,none⟩=some (.slice x.K x.kn x.kc):=z3.at_ 3
    have e4:W3.cell? ⟨W1.heap.size,4,none⟩=some (.string x.text.s):=z3.at_ 4
    have e5:W3.cell? ⟨W1.heap.size,5,none⟩=some (.slice x.text.A x.text.n x.text.c):=z3.at_ 5
    clear hm3 y2 hb2 hw2 HFIN0 hown3 hus3 hm43 hsh3 v3 v2 z3
    gi_wp2_with fail
    refine CallsIn.inRound l (callsIn_wide.2 ((zef x W3).mono ?_))
    rintro e W4 ⟨rfl,hb34⟩
    have HB34:=Lib.hid hb34
    have hz34:=hb34.size
    have HCELLS:Hid (∀ V,Below W4.heap.size W4 V->(V.cell? ⟨w.heap.size,0,none⟩=some (.func (.func F) #[] #[])/\V.cell? ⟨W1.heap.size,0,none⟩=some (.string x.tag.s)/\V.cell? ⟨W1.heap.size,1,none⟩=some (.slice x.tag.A x.tag.n x.tag.c)/\V.cell? ⟨W1.heap.size,2,none⟩=some (.slice x.A x.n x.c)/\V.cell? ⟨W1.heap.size,3,none⟩=some (.slice x.K x.kn x.kc)/\V.cell? ⟨W1.heap.size,4,none⟩=some (.string x.text.s)/\V.cell? ⟨W1.heap.size,5,none⟩=some (.slice x.text.A x.text.n x.text.c))/\Whole V W1.heap.size 48 #[.string x.tag.s,.slice x.tag.A x.tag.n x.tag.c,.slice x.A x.n x.c,.slice x.K x.kn x.kc,.string x.text.s,.slice x.text.A x.text.n x.text.c]/\Below W3.heap.size W3 V):=fun V h=>by
      have hb:=zf hb34 (Nat.le_refl _) h
      have z:=HZ3.out.below hb HZ3.out.lt
      exact⟨⟨(HV2.out.below hb HV2.out.lt).at_ 0,z.at_ 0,z.at_ 1,z.at_ 2,z.at_ 3,z.at_ 4,z.at_ 5⟩,z,hb⟩
    have HSB:Hid (∀ V,Below W4.heap.size W4 V->V.cell? ⟨w.heap.size,0,none⟩=some (.func (.func F) #[] #[])/\V.cell? ⟨W1.heap.size,0,none⟩=some (.string x.tag.s)/\V.cell? ⟨W1.heap.size,1,none⟩=some (.slice x.tag.A x.tag.n x.tag.c)/\V.cell? ⟨W1.heap.size,2,none⟩=some (.slice x.A x.n x.c)/\V.cell? ⟨W1.heap.size,3,none⟩=some (.slice x.K x.kn x.kc)/\V.cell? ⟨W1.heap.size,4,none⟩=some (.string x.text.s)/\V.cell? ⟨W1.heap.size,5,none⟩=some (.slice x.text.A x.text.n x.text.c)):=fun V h=>(HCELLS.out V h).1
    have HFR:Hid (∀ V,Below W4.heap.size W4 V->V.frozen? ⟨W1.heap.size,0,none⟩=false/\V.frozen? ⟨W1.heap.size,1,none⟩=false/\V.frozen? ⟨W1.heap.size,2,none⟩=false/\V.frozen? ⟨W1.heap.size,3,none⟩=false/\V.frozen? ⟨W1.heap.size,4,none⟩=false/\V.frozen? ⟨W1.heap.size,5,none⟩=false):=fun V h=>by
      have z:=(HCELLS.out V h).2.1
      exact⟨z.free 0,z.free 1,z.free 2,z.free 3,z.free 4,z.free 5⟩
    have HSHV:Hid (∀ V,Below W4.heap.size W4 V->ShT S x G V):=fun V h=>HSH3.out.moved (Moved.of_below (HCELLS.out V h).2.2)
    -- what holds behind a round,whatever tree has been made
    have HG7:Hid (∀ (T:TT) (W6 w7:World) (d7 g7:Nat) (o:Obj),zh4 g W1 W3 x T W6->w7.ownsRow w4.heap.size 48 6 (.slice (some ⟨g7,0,none⟩) (us.length+1) d7) (us.length+1) (ze us++ zj zeroTT)->(W6.alloc o).grownBy w7 (Value.slice A5 us.length c5).ownBlock->((Value.slice (some ⟨g7,0,none⟩) (us.length+1) d7).ownBlock=(Value.slice A5 us.length c5).ownBlock\/(Value.slice (some ⟨g7,0,none⟩) (us.length+1) d7).ownBlock=some (W6.alloc o).heap.size)->
        ((w7.cell? ⟨g7,us.length * 6,none⟩=some (.string zeroTT.tag.s)/\w7.cell? ⟨g7,us.length * 6+1,none⟩=some (.slice zeroTT.tag.A zeroTT.tag.n zeroTT.tag.c)/\w7.cell? ⟨g7,us.length * 6+2,none⟩=some (.slice zeroTT.A zeroTT.n zeroTT.c)/\w7.cell? ⟨g7,us.length * 6+3,none⟩=some (.slice zeroTT.K zeroTT.kn zeroTT.kc)/\w7.cell? ⟨g7,us.length * 6+4,none⟩=some (.string zeroTT.text.s)/\w7.cell? ⟨g7,us.length * 6+5,none⟩=some (.slice zeroTT.text.A zeroTT.text.n zeroTT.text.c)/\w7.frozen? ⟨g7,us.length * 6,none⟩=false/\w7.frozen? ⟨g7,us.length * 6+1,none⟩=false/\w7.frozen? ⟨g7,us.length * 6+2,none⟩=false/\w7.frozen? ⟨g7,us.length * 6+3,none⟩=false/\w7.frozen? ⟨g7,us.length * 6+4,none⟩=false/\w7.frozen? ⟨g7,us.length * 6+5,none⟩=false)/\(w7.cell? ⟨w.heap.size+1,0,none⟩=some (.slice A5 us.length c5)/\w7.frozen? ⟨w.heap.size+1,0,none⟩=false)/\(((((((w7.setCell ⟨g7,us.length * 6,none⟩ (.string T.tag.s)).setCell ⟨g7,us.length * 6+1,none⟩ (.slice T.tag.A T.tag.n T.tag.c)).setCell ⟨g7,us.length * 6+2,none⟩ (.slice T.A T.n T.c)).setCell ⟨g7,us.length * 6+3,none⟩ (.slice T.K T.kn T.kc)).setCell ⟨g7,us.length * 6+4,none⟩ (.string T.text.s)).setCell ⟨g7,us.length * 6+5,none⟩ (.slice T.text.A T.text.n T.text.c)).cell? ⟨w.heap.size+1,0,none⟩=some (.slice A5 us.length c5)/\((((((w7.setCell ⟨g7,us.length * 6,none⟩ (.string T.tag.s)).setCell ⟨g7,us.length * 6+1,none⟩ (.slice T.tag.A T.tag.n T.tag.c)).setCell ⟨g7,us.length * 6+2,none⟩ (.slice T.A T.n T.c)).setCell ⟨g7,us.length * 6+3,none⟩ (.slice T.K T.kn T.kc)).setCell ⟨g7,us.length * 6+4,none⟩ (.string T.text.s)).setCell ⟨g7,us.length * 6+5,none⟩ (.slice T.text.A T.text.n T.text.c)).frozen? ⟨w.heap.size+1,0,none⟩=false))/\(∀ u,(w7.setCell ⟨w.heap.size+1,0,none⟩ u).cell? ⟨g7,us.length * 6,none⟩=some (.string zeroTT.tag.s)/\(w7.setCell ⟨w.heap.size+1,0,none⟩ u).cell? ⟨g7,us.length * 6+1,none⟩=some (.slice zeroTT.tag.A zeroTT.tag.n zeroTT.tag.c)/\(w7.setCell ⟨w.heap.size+1,0,none⟩ u).cell? ⟨g7,us.length * 6+2,none⟩=some (.slice zeroTT.A zeroTT.n zeroTT.c)/\(w7.setCell ⟨w.heap.size+1,0,none⟩ u).cell? ⟨g7,us.length * 6+3,none⟩=some (.slice zeroTT.K zeroTT.kn zeroTT.kc)/\(w7.setCell ⟨w.heap.size+1,0,none⟩ u).cell? ⟨g7,us.length * 6+4,none⟩=some (.string zeroTT.text.s)/\(w7.setCell ⟨w.heap.size+1,0,none⟩ u).cell? ⟨g7,us.length * 6+5,none⟩=some (.slice zeroTT.text.A zeroTT.text.n zeroTT.text.c)/\(w7.setCell ⟨w.heap.size+1,0,none⟩ u).frozen? ⟨g7,us.length * 6,none⟩=false/\(w7.setCell ⟨w.heap.size+1,0,none⟩ u).frozen? ⟨g7,us.length * 6+1,none⟩=false/\(w7.setCell ⟨w.heap.size+1,0,none⟩ u).frozen? ⟨g7,us.length * 6+2,none⟩=false/\(w7.setCell ⟨w.heap.size+1,0,none⟩ u).frozen? ⟨g7,us.length * 6+3,none⟩=false/\(w7.setCell ⟨w.heap.size+1,0,none⟩ u).frozen? ⟨g7,us.length * 6+4,none⟩=false/\(w7.setCell ⟨w.heap.size+1,0,none⟩ u).frozen? ⟨g7,us.length * 6+5,none⟩=false)/\(∃ K',zfX g (w.heap.size+1) w4 (pre++ [x]) K' (((((((w7.setCell ⟨g7,us.length * 6,none⟩ (.string T.tag.s)).setCell ⟨g7,us.length * 6+1,none⟩ (.slice T.tag.A T.tag.n T.tag.c)).setCell ⟨g7,us.length * 6+2,none⟩ (.slice T.A T.n T.c)).setCell ⟨g7,us.length * 6+3,none⟩ (.slice T.K T.kn T.kc)).setCell ⟨g7,us.length * 6+4,none⟩ (.string T.text.s)).setCell ⟨g7,us.length * 6+5,none⟩ (.slice T.text.A T.text.n T.text.c)).setCell ⟨w.heap.size+1,0,none⟩ (.slice (some ⟨g7,0,none⟩) (us.length+1) d7))/\(∀ b,K' b->K b\/G b\/(W1.heap.size<=b/\b < (((((((w7.setCell ⟨g7,us.length * 6,none⟩ (.string T.tag.s)).setCell ⟨g7,us.length * 6+1,none⟩ (.slice T.tag.A T.tag.n T.tag.c)).setCell ⟨g7,us.length * 6+2,none⟩ (.slice T.A T.n T.c)).setCell ⟨g7,us.length * 6+3,none⟩ (.slice T.K T.kn T.kc)).setCell ⟨g7,us.length * 6+4,none⟩ (.string T.text.s)).setCell ⟨g7,us.length * 6+5,none⟩ (.slice T.text.A T.text.n T.text.c)).setCell ⟨w.heap.size+1,0,none⟩ (.slice (some ⟨g7,0,none⟩) (us.length+1) d7)).heap.size))/\Moved (fun b=>K b\/G b\/W1.heap.size<=b) W3 (((((((w7.setCell ⟨g7,us.length * 6,none⟩ (.string T.tag.s)).setCell ⟨g7,us.length * 6+1,none⟩ (.slice T.tag.A T.tag.n T.tag.c)).setCell ⟨g7,us.length * 6+2,none⟩ (.slice T.A T.n T.c)).setCell ⟨g7,us.length * 6+3,none⟩ (.slice T.K T.kn T.kc)).setCell ⟨g7,us.length * 6+4,none⟩ (.string T.text.s)).setCell ⟨g7,us.length * 6+5,none⟩ (.slice T.text.A T.text.n T.text.c)).setCell ⟨w.heap.size+1,0,none⟩ (.slice (some ⟨g7,0,none⟩) (us.length+1) d7)))/\(∃ K',zfX g (w.heap.size+1) w4 (pre++ [x]) K' (((((((w7.setCell ⟨w.heap.size+1,0,none⟩ (.slice (some ⟨g7,0,none⟩) (us.length+1) d7)).setCell ⟨g7,us.length * 6,none⟩ (.string T.tag.s)).setCell ⟨g7,us.length * 6+1,none⟩ (.slice T.tag.A T.tag.n T.tag.c)).setCell ⟨g7,us.length * 6+2,none⟩ (.slice T.A T.n T.c)).setCell ⟨g7,us.length * 6+3,none⟩ (.slice T.K T.kn T.kc)).setCell ⟨g7,us.length * 6+4,none⟩ (.string T.text.s)).setCell ⟨g7,us.length * 6+5,none⟩ (.slice T.text.A T.text.n T.text.c))/\(∀ b,K' b->K b\/G b\/(W1.heap.size<=b/\b < (((((((w7.setCell ⟨w.heap.size+1,0,none⟩ (.slice (some ⟨g7,0,none⟩) (us.length+1) d7)).setCell ⟨g7,us.length * 6,none⟩ (.string T.tag.s)).setCell ⟨g7,us.length * 6+1,none⟩ (.slice T.tag.A T.tag.n T.tag.c)).setCell ⟨g7,us.length * 6+2,none⟩ (.slice T.A T.n T.c)).setCell ⟨g7,us.length * 6+3,none⟩ (.slice T.K T.kn T.kc)).setCell ⟨g7,us.length * 6+4,none⟩ (.string T.text.s)).setCell ⟨g7,us.length * 6+5,none⟩ (.slice T.text.A T.text.n T.text.c)).heap.size))/\Moved (fun b=>K b\/G b\/W1.heap.size<=b) W3 (((((((w7.setCell ⟨w.heap.size+1,0,none⟩ (.slice (some ⟨g7,0,none⟩) (us.length+1) d7)).setCell ⟨g7,us.length * 6,none⟩ (.string T.tag.s)).setCell ⟨g7,us.length * 6+1,none⟩ (.slice T.tag.A T.tag.n T.tag.c)).setCell ⟨g7,us.length * 6+2,none⟩ (.slice T.A T.n T.c)).setCell ⟨g7,us.length * 6+3,none⟩ (.slice T.K T.kn T.kc)).setCell ⟨g7,us.length * 6+4,none⟩ (.string T.text.s)).setCell ⟨g7,us.length * 6+5,none⟩ (.slice T.text.A T.text.n T.text.c)))):=by
      intro T W6 w7 d7 g7 o hmade hown7 hgr hv'
      obtain⟨zt,hm36,hT,hTK,hTC⟩:=hmade
      have hrow:w7.ownsRow w4.heap.size 48 6 (.slice (some ⟨g7,0,none⟩) (us.length+1) d7) (us.length+1) (ze (us++ [zeroTT])):=by rw[zL];exact hown7
      have hg7:=hrow.lt g7 rfl
      have hne:g7≠w.heap.size+1:=by omega
      have hz36:=hm36.size
      have hvb:(Value.slice A5 us.length c5).ownBlock≠some (w.heap.size+1):=fun h=>by have:=(HOWN3.out.lt _ h).1;omega
      have y7:Whole w7 (w.heap.size+1) 27 #[.slice A5 us.length c5]:=((hm36.whole HV3.out (fun h=>by omega)).alloc o).grown hgr (fun h=>hvb h.symm)
      have hlen:(us++ [zeroTT]).length=us.length+1:=by simp
      have hat:(us++ [zeroTT])[us.length]?=some zeroTT:=by simp
      have hset:(us++ [zeroTT]).set us.length T=us++ [T]:=by rw[List.set_append_right _ _ (Nat.le_refl _),Nat.sub_self];rfl
      have hA:=zbk T hrow (k:=us.length) (by rw[hlen];omega)
      rw[hset]at hA
      obtain⟨oA,mA⟩:=hA
      have hrowB:∀ u,(w7.setCell ⟨w.heap.size+1,0,none⟩ u).ownsRow w4.heap.size 48 6 (.slice (some ⟨g7,0,none⟩) (us.length+1) d7) (us.length+1) (ze (us++ [zeroTT])):=fun u=>zS hrow _ (fun h=>hne (by injection h)) u
      have hB:=zbk T (hrowB (.slice (some ⟨g7,0,none⟩) (us.length+1) d7)) (k:=us.length) (by rw[hlen];omega)
      rw[hset]at hB
      obtain⟨oB,mB⟩:=hB
      have yA:=mA.whole y7 (fun h=>hne h.symm)
      refine⟨⟨zlX hrow hat hlen,⟨y7.at_ 0,y7.free 0⟩,⟨yA.at_ 0,yA.free 0⟩⟩,fun u=>zlX (hrowB u) hat hlen,?_,?_⟩
      . refine zfk (v':=.slice (some ⟨g7,0,none⟩) (us.length+1) d7) (by omega) hz41 hz13 HOWN3.out HG.out HUS3.out HE.out HKB.out HKL.out HM43.out hm36 hT hTK hTC hgr hv' (yA.put 0 _) (zS oA _ (fun h=>hne (by injection h)) _) ?_
        exact(mA.mono fun i _ h=>.inr (by subst h;rfl)).join ((Moved.refl (fun b=>b=w.heap.size+1) _).setCell (p:=⟨w.heap.size+1,0,none⟩) rfl _) fun i _ h=>.inl h
      . refine zfk (v':=.slice (some ⟨g7,0,none⟩) (us.length+1) d7) (by omega) hz41 hz13 HOWN3.out HG.out HUS3.out HE.out HKB.out HKL.out HM43.out hm36 hT hTK hTC hgr hv' (mB.whole (y7.put 0 _) (fun h=>hne h.symm)) oB ?_
        exact((Moved.refl (fun b=>b=w.heap.size+1\/(Value.slice (some ⟨g7,0,none⟩) (us.length+1) d7).ownBlock=some b) w7).setCell (p:=⟨w.heap.size+1,0,none⟩) (.inl rfl) _).join mB fun i _ h=>.inr (by subst h;rfl)
    have hHB:=(Below.refl W4.heap.size W4)
    obtain⟨a0,a1,a2,a3,a4,a5,a6⟩:=HSB.out _ hHB
    clear e0 e1 e2 e3 e4 e5 hb34
    generalize hzu:us.length=z at *
    have HZU:=Lib.hid hzu
    clear hzu
    cases hel:elB x with
    | true=>
      have HTX:Hid (x.ch.text=[]):=HOS.out.2 (by rw[TT.ch_tag];exact(zkM x).1 hel)
      clear hel
      have HCT:Hid (∀ V,Below W4.heap.size W4 V->Calls Tryz.prog F #[.agg #[.string x.tag.s,.slice x.tag.A x.tag.n x.tag.c]] V fun e w''=>∃ t':LT,e=.returned (.agg #[.string t'.s,.slice t'.A t'.n t'.c])/\Hid (t'.ch=g x.tag.ch/\OwnL w'' V.heap.size t')/\Below V.heap.size V w''):=fun V h=>HF.out.tells x.tag V (HSHV.out V h).1.tag.ok
      have HCA:Hid (∀ V,Below W4.heap.size W4 V->Calls Tryz.prog 100 #[.slice x.A x.n x.c,.func (.func F) #[] #[]] V (zgA ((zag (x.atts.map AT.ch)).map (gA g)) V)):=fun V h=>by
        have hs:=(HSHV.out V h).1
        exact zlL HF.out x.A x.n x.c x.atts V hs.att.lies (fun a ha=>(hs.atts a ha).ok) hs.an (by have:=hs.am;omega)
      have HCK:Hid (∀ V,Below W4.heap.size W4 V->Calls Tryz.prog 57 #[.slice x.K x.kn x.kc,.func (.func F) #[] #[]] V (zeZ (fun b=>V.heap.size<=b) (mapL g (zp (chL x.kids))) V)):=fun V h=>by
        have hs:=HSHV.out V h
        exact HIH.out (chL x.kids) HLT.out S x.K x.kn x.kc x.kids V rfl (by have:=HLT.out;omega) hs.2.1 hs.2.2 hs.1.kn (fun b hb=>by have:=HS.out b hb;have:=h.size;omega)
      have HEL:Hid (∀ (t1:LT) (w5:World) (A1:Option Addr) (c1:Nat) (us1:List AT) (w6:World) (A2:Option Addr) (c2:Nat) (ks:List TT) (w7:World),Below W4.heap.size W4 w5->Below w5.heap.size w5 w6->Below w6.heap.size w6 w7->t1.ch=g x.tag.ch->OwnL w5 W4.heap.size t1->
          w6.ownsRow w5.heap.size 93 4 (.slice A1 us1.length c1) us1.length (zq us1)->AllOwn w6 w5.heap.size us1->us1.map AT.ch=(zag (x.atts.map AT.ch)).map (gA g)->
          w7.ownsRow w6.heap.size 48 6 (.slice A2 ks.length c2) ks.length (ze ks)->AllS (fun b=>w6.heap.size<=b) w7 ks->(chL ks=mapL g (zp (chL x.kids))/\(∀ x∈ks,Kz x)/\(ks=[]->A2=none/\c2=0))->
          zh4 g W1 W3 x (zo2 t1 A1 c1 us1 A2 c2 ks) ((((((w7.setCell ⟨W1.heap.size,0,none⟩ (.string t1.s)).setCell ⟨W1.heap.size,1,none⟩ (.slice t1.A t1.n t1.c)).setCell ⟨W1.heap.size,2,none⟩ (.slice A1 us1.length c1)).setCell ⟨W1.heap.size,3,none⟩ (.slice A2 ks.length c2)).setCell ⟨W1.heap.size,4,none⟩ (.string ⟨#[]⟩)).setCell ⟨W1.heap.size,5,none⟩ (.slice none 0 0))):=by
        intro t1 w5 A1 c1 us1 w6 A2 c2 ks w7 hb5 hb6 hb7 q1 o1 p1 p2 p3 r1 r2 r3
        have hb46:=zf hb5 (Nat.le_refl _) hb6
        have hb47:=zf hb46 (Nat.le_refl _) hb7
        have hz5:=hb5.size
        have hz6:=hb6.size
        have hz7:=hb7.size
        have z7:=(HCELLS.out w7 hb47).2.1
        have hb37:=(HCELLS.out w7 hb47).2.2
        have hmc:Moved (fun b=>b=W1.heap.size) w7 ((((((w7.setCell ⟨W1.heap.size,0,none⟩ (.string t1.s)).setCell ⟨W1.heap.size,1,none⟩ (.slice t1.A t1.n t1.c)).setCell ⟨W1.heap.size,2,none⟩ (.slice A1 us1.length c1)).setCell ⟨W1.heap.size,3,none⟩ (.slice A2 ks.length c2)).setCell ⟨W1.heap.size,4,none⟩ (.string ⟨#[]⟩)).setCell ⟨W1.heap.size,5,none⟩ (.slice none 0 0)):=((((((Moved.refl (fun b=>b=W1.heap.size) w7).setCell (p:=⟨W1.heap.size,0,none⟩) rfl _).setCell (p:=⟨W1.heap.size,1,none⟩) rfl _).setCell (p:=⟨W1.heap.size,2,none⟩) rfl _).setCell (p:=⟨W1.heap.size,3,none⟩) rfl _).setCell (p:=⟨W1.heap.size,4,none⟩) rfl _).setCell (p:=⟨W1.heap.size,5,none⟩) rfl _
        have hst:Stays (fun b=>W1.heap.size < b) w7 ((((((w7.setCell ⟨W1.heap.size,0,none⟩ (.string t1.s)).setCell ⟨W1.heap.size,1,none⟩ (.slice t1.A t1.n t1.c)).setCell ⟨W1.heap.size,2,none⟩ (.slice A1 us1.length c1)).setCell ⟨W1.heap.size,3,none⟩ (.slice A2 ks.length c2)).setCell ⟨W1.heap.size,4,none⟩ (.string ⟨#[]⟩)).setCell ⟨W1.heap.size,5,none⟩ (.slice none 0 0)):=hmc.stays fun i _ h h2=>by omega
        have hs:=(HSHV.out _ (Below.refl _ W4)).1
        have hal:us1.length<=1048576:=by
          have h1:=congrArg List.length p3
          rw[List.length_map,List.length_map]at h1
          have h2:(zag (x.atts.map AT.ch)).length<=(x.atts.map AT.ch).length:=zfC _ _
          rw[List.length_map,hs.an]at h2
          have:=hs.am
          omega
        have hkl:ks.length<=1048576:=by
          have h1:=congrArg List.length r3.1
          rw[zv,zfW,List.length_map]at h1
          have h2:=zkx (zp (chL x.kids))
          have h3:=zfU (chL x.kids)
          have:=HLT.out
          omega
        have hno:∀ {B c:Nat} {e:TypeId} {sz:Nat} {A:Option Addr} {m:Nat} {xs:List Value} {V:World},V.ownsRow B e sz (.slice A m c) m xs->A=none->c=0:=fun h h0=>by
          obtain⟨A',c',hv,h1,_,_⟩:=zh h
          injection hv with h2 _ h3
          rw[h3];exact h1 (h2 ▸ h0)
        refine⟨?_,(Moved.of_below hb37).join hmc fun _ _ h=>h,?_,?_,?_⟩
        . exact((((((z7.put 0 _).put 1 _).put 2 _).put 3 _).put 4 _).put 5 _)
        . exact(TT.inS.mk ((o1.below (zf hb6 (Nat.le_refl _) hb7)).inS) ⟨LiesS.nil _ _ _,rfl,Nat.zero_le _,Nat.zero_le _⟩ ((zbZ (zJ p1 hb7)).mono fun b h _=>by show W4.heap.size<=b;have:w5.heap.size<=b:=h;omega) rfl (hno p1) hal (fun a ha=>((p2.below hb7 a ha).inS).mono fun b h _=>by show W4.heap.size<=b;have:w5.heap.size<=b:=h;omega) ((zbZ r1).mono fun b h _=>by show W4.heap.size<=b;have:w6.heap.size<=b:=h;omega) rfl (hno r1) hkl:(zo2 t1 A1 c1 us1 A2 c2 ks).inS (fun b=>W4.heap.size<=b) w7) |>.mono (S':=fun b=>W1.heap.size < b) (fun b h _=>by have:W4.heap.size<=b:=h;show W1.heap.size < b;omega) |>.keep hst
        . exact(r2.mono (S':=fun b=>W1.heap.size < b) fun b h _=>by have:w6.heap.size<=b:=h;show W1.heap.size < b;omega).keep hst
        . refine⟨?_,r3.2.2⟩
          rw[znE,zpT HG0.out _ HTX.out,TT.ch_tag,TT.ch_attrs,TT.ch_kids,q1,p3,r3.1]
      have hS:=HSB.out W4.drew (Below.drew (Below.refl _ _))
      gi_wp2_with fail
      clear a0 a1 a2 a3 a4 a5 a6
      refine zch (by kernel_rfl) rfl (zlY fun _ _ h=>by obtain⟨h1,_⟩:=h;cases h1) ?_
      refine zay (S:=fun V=>V.cell? ⟨w.heap.size,0,none⟩=some (.func (.func F) #[] #[])/\V.cell? ⟨W1.heap.size,0,none⟩=some (.string x.tag.s)/\V.cell? ⟨W1.heap.size,1,none⟩=some (.slice x.tag.A x.tag.n x.tag.c)/\V.cell? ⟨W1.heap.size,2,none⟩=some (.slice x.A x.n x.c)/\V.cell? ⟨W1.heap.size,3,none⟩=some (.slice x.K x.kn x.kc)/\V.cell? ⟨W1.heap.size,4,none⟩=some (.string x.text.s)/\V.cell? ⟨W1.heap.size,5,none⟩=some (.slice x.text.A x.text.n x.text.c)) (Z:=fun i=>decide (13<=i)) _ _ _ _ ?_
      refine' zb (i:=0) ?i1 (by kernel_rfl) (by kernel_rfl) (by kernel_rfl) (by kernel_rfl) ?q1 ?y1 hS ?r1
      case i1=>simp only[zlD,zlE];rfl
      case q1=>exact fun _ _ _ h=>h
      case y1=>
        refine Or.inl ⟨by rfl,?_⟩
        intro wq hq
        try dsimp only at hq
        try obtain⟨hq0,hq1,hq2,hq3,hq4,hq5,hq6⟩:=hq
        go_simp
        try with_reducible rfl
      try simp only[Act.put,zlA,zlB,zlC]
      refine' zb (i:=1) ?i2 (by kernel_rfl) (by kernel_rfl) (by kernel_rfl) (by kernel_rfl) ?q2 ?y2 hS ?r2
      case i2=>simp only[zlD,zlF,zlE];rfl
      case q2=>exact fun _ _ _ h=>h
      case y2=>
        refine Or.inl ⟨by rfl,?_⟩
        intro wq hq
        try dsimp only at hq
        try obtain⟨hq0,hq1,hq2,hq3,hq4,hq5,hq6⟩:=hq
        go_simp
        try with_reducible rfl
      try simp only[Act.put,zlA,zlB,zlC]
      refine' zb (i:=2) ?i3 (by kernel_rfl) (by kernel_rfl) (by kernel_rfl) (by kernel_rfl) ?q3 ?y3 hS ?r3
      case i3=>simp only[zlD,zlF,zlE];rfl
      case q3=>exact fun _ _ _ h=>h
      case y3=>
        refine Or.inl ⟨by rfl,?_⟩
        intro wq hq
        try dsimp only at hq
        try obtain⟨hq0,hq1,hq2,hq3,hq4,hq5,hq6⟩:=hq
        go_simp
        try with_reducible rfl
      try simp only[Act.put,zlA,zlB,zlC]
      refine' zb (i:=4) ?i4 (by kernel_rfl) (by kernel_rfl) (by kernel_rfl) (by kernel_rfl) ?q4 ?y4 hS ?r4
      case i4=>simp only[zlD,zlF,zlE];rfl
      case q4=>exact fun _ _ _ h=>h
      case y4=>
        refine Or.inl ⟨by rfl,?_⟩
        intro wq hq
        try dsimp only at hq
        try obtain⟨hq0,hq1,hq2,hq3,hq4,hq5,hq6⟩:=hq
        go_simp
        try with_reducible rfl
      try simp only[Act.put,zlA,zlB,zlC]
      refine' zb (i:=5) ?i5 (by kernel_rfl) (by kernel_rfl) (by kernel_rfl) (by kernel_rfl) ?q5 ?y5 hS ?r5
      case i5=>simp only[zlD,zlF,zlE];rfl
      case q5=>exact fun _ _ _ h=>h
      case y5=>
        refine Or.inl ⟨by rfl,?_⟩
        intro wq hq
        try dsimp only at hq
        try obtain⟨hq0,hq1,hq2,hq3,hq4,hq5,hq6⟩:=hq
        go_simp
        try with_reducible rfl
      try simp only[Act.put,zlA,zlB,zlC]
      refine' zb (i:=6) ?i6 (by kernel_rfl) (by kernel_rfl) (by kernel_rfl) (by kernel_rfl) ?q6 ?y6 hS ?r6
      case i6=>simp only[zlD,zlF,zlE];rfl
      case q6=>exact fun _ _ _ h=>h
      case y6=>
        refine Or.inl ⟨by rfl,?_⟩
        intro wq hq
        try dsimp only at hq
        try obtain⟨hq0,hq1,hq2,hq3,hq4,hq5,hq6⟩:=hq
        go_simp
        try with_reducible rfl
      try simp only[Act.put,zlA,zlB,zlC]
      refine' zb (i:=8) ?i7 (by kernel_rfl) (by kernel_rfl) (by kernel_rfl) (by kernel_rfl) ?q7 ?y7 hS ?r7
      case i7=>simp only[zlD,zlF,zlE];rfl
      case q7=>exact fun _ _ _ h=>h
      case y7=>
        refine Or.inl ⟨by rfl,?_⟩
        intro wq hq
        try dsimp only at hq
        try obtain⟨hq0,hq1,hq2,hq3,hq4,hq5,hq6⟩:=hq
        go_simp
        try with_reducible rfl
      try simp only[Act.put,zlA,zlB,zlC]
      refine' zb (i:=9) ?i8 (by kernel_rfl) (by kernel_rfl) (by kernel_rfl) (by kernel_rfl) ?q8 ?y8 hS ?r8
      case i8=>simp only[zlD,zlF,zlE];rfl
      case q8=>exact fun _ _ _ h=>h
      case y8=>
        refine Or.inl ⟨by rfl,?_⟩
        intro wq hq
        try dsimp only at hq
        try obtain⟨hq0,hq1,hq2,hq3,hq4,hq5,hq6⟩:=hq
        go_simp
        try with_reducible rfl
      try simp only[Act.put,zlA,zlB,zlC]
      refine' zb (i:=10) ?i9 (by kernel_rfl) (by kernel_rfl) (by kernel_rfl) (by kernel_rfl) ?q9 ?y9 hS ?r9
      case i9=>simp only[zlD,zlF,zlE];rfl
      case q9=>exact fun _ _ _ h=>h
      case y9=>
        refine Or.inl ⟨by rfl,?_⟩
        intro wq hq
        try dsimp only at hq
        try obtain⟨hq0,hq1,hq2,hq3,hq4,hq5,hq6⟩:=hq
        go_simp
        try with_reducible rfl
      try simp only[Act.put,zlA,zlB,zlC]
      refine za (rs:=[3]) (by kernel_rfl) (by simp) ?_
      refine' ReadyL.cons ?o10 (fun K hK=>?s10) ReadyL.nil
      case o10=>simp only[zlD,zlF,zlE];rfl
      refine zbT _ rfl _ _ _ rfl F rfl HF.out.enters (.agg #[.string x.tag.s,.slice x.tag.A x.tag.n x.tag.c]) rfl (HCT.out _ (Below.drew (Below.refl _ _))) ?_
      rintro e w5 ⟨t1,rfl,h1,hb5⟩
      refine⟨_,rfl,?_⟩
      have hbA:Below W4.heap.size W4 w5:=(Below.drew (Below.refl _ W4)).trans hb5
      refine hK.out _ _ (.inr (HSB.out _ hbA)) ?_
      clear hK K hS
      have hS:=HSB.out _ hbA
      try simp only[Act.put,zlA,zlB,zlC]
      refine za (rs:=[7]) (by kernel_rfl) (by simp) ?_
      refine' ReadyL.cons ?o11 (fun K hK=>?s11) ReadyL.nil
      case o11=>simp only[zlD,zlF,zlE];rfl
      go_simp
      refine(HCA.out _ hbA).mono ?_
      rintro e w6 ⟨A1,c1,us1,rfl,p1,p2,p3,hb6⟩
      have hbB:Below W4.heap.size W4 w6:=zf hbA (Nat.le_refl _) hb6
      refine hK.out _ _ (.inr (HSB.out _ hbB)) ?_
      clear hK K hS
      have hS:=HSB.out _ hbB
      try simp only[Act.put,zlA,zlB,zlC]
      refine za (rs:=[11]) (by kernel_rfl) (by simp) ?_
      refine' ReadyL.cons ?o12 (fun K hK=>?s12) ReadyL.nil
      case o12=>simp only[zlD,zlF,zlE];rfl
      go_simp
      refine(HCK.out _ hbB).mono ?_
      rintro e w7 ⟨A2,c2,ks,rfl,r1,r2,r3,hb7⟩
      have hbC:Below W4.heap.size W4 w7:=zf hbB (Nat.le_refl _) hb7
      refine hK.out _ _ (.inr (HSB.out _ hbC)) ?_
      clear hK K hS
      have hS:=HSB.out _ hbC
      try simp only[Act.put,zlA,zlB,zlC]
      refine za (rs:=[12]) (by kernel_rfl) (by simp) ?_
      refine' ReadyL.cons ?o13 (fun K hK=>?s13) ReadyL.nil
      case o13=>simp only[zlD,zlF,zlE];rfl
      go_simp
      refine hK.out _ _ (.inr hS) ?_
      clear hK K
      try simp only[Act.put,zlA,zlB,zlC]
      refine za (rs:=[13]) (by kernel_rfl) (by simp) ?_
      refine' ReadyL.cons ?o14 (fun K hK=>?s14) ReadyL.nil
      case o14=>simp only[zlD,zlF,zlE];rfl
      obtain⟨hs0,hs1,hs2,hs3,hs4,hs5,hs6⟩:=hS
      obtain⟨g0,g1,g2,g3,g4,g5⟩:=HFR.out _ hbC
      go_simp
      refine hK.out _ _ (.inl (by decide)) ?_
      clear hK K hs0 hs1 hs2 hs3 hs4 hs5 hs6 g0 g1 g2 g3 g4 g5
      try simp only[Act.put,zlA,zlB,zlC]
      refine zg (by kernel_rfl) ?_ _
      have HT6:=Lib.hid (HEL.out t1 w5 A1 c1 us1 w6 A2 c2 ks w7 hbA hb6 hb7 h1.out.1 h1.out.2 p1 p2 p3 r1 r2 r3)
      clear hbA hbB hbC hb5 hb6 hb7 h1 p1 p2 p3 r1 r2 r3
      generalize hW6:((((((w7.setCell ⟨W1.heap.size,0,none⟩ (.string t1.s)).setCell ⟨W1.heap.size,1,none⟩ (.slice t1.A t1.n t1.c)).setCell ⟨W1.heap.size,2,none⟩ (.slice A1 us1.length c1)).setCell ⟨W1.heap.size,3,none⟩ (.slice A2 ks.length c2)).setCell ⟨W1.heap.size,4,none⟩ (.string ⟨#[]⟩)).setCell ⟨W1.heap.size,5,none⟩ (.slice none 0 0))=W6 at HT6 ⊢
      clear hW6
      obtain⟨T,HT7⟩:∃ T,Hid (zh4 g W1 W3 x T W6):=⟨_,HT6⟩
      have hz36:=HT7.out.2.1.size
      have HOWN6:Hid ((W6.drew.alloc (.cells #[.string ⟨#[]⟩,.slice none 0 0,.slice none 0 0,.slice none 0 0,.string ⟨#[]⟩,.slice none 0 0] 48)).ownsRow w4.heap.size 48 6 (.slice A5 z c5) z (ze us)):=(HT7.out.2.1.own HOWN3.out (fun i hi h=>by have:=(HKL.out i (HG.out i hi)).2;omega)).alloc _
      have HSB7:Hid (∀ V,Below W6.heap.size W6 V->V.cell? ⟨w.heap.size+1,0,none⟩=some (.slice A5 z c5)/\V.cell? ⟨W1.heap.size,0,none⟩=some (.string T.tag.s)/\V.cell? ⟨W1.heap.size,1,none⟩=some (.slice T.tag.A T.tag.n T.tag.c)/\V.cell? ⟨W1.heap.size,2,none⟩=some (.slice T.A T.n T.c)/\V.cell? ⟨W1.heap.size,3,none⟩=some (.slice T.K T.kn T.kc)/\V.cell? ⟨W1.heap.size,4,none⟩=some (.string T.text.s)/\V.cell? ⟨W1.heap.size,5,none⟩=some (.slice T.text.A T.text.n T.text.c)):=fun V h=>by
        have y:=(HT7.out.2.1.whole HV3.out (fun h=>by omega)).below h (by have:=HV3.out.lt;omega)
        have zt:=HT7.out.1.below h HT7.out.1.lt
        exact⟨y.at_ 0,zt.at_ 0,zt.at_ 1,zt.at_ 2,zt.at_ 3,zt.at_ 4,zt.at_ 5⟩
      have HS7:Hid (∀ V,(W6.drew.alloc (.cells #[.string ⟨#[]⟩,.slice none 0 0,.slice none 0 0,.slice none 0 0,.string ⟨#[]⟩,.slice none 0 0] 48)).grownBy V (Value.slice A5 z c5).ownBlock->V.cell? ⟨w.heap.size+1,0,none⟩=some (.slice A5 z c5)/\V.cell? ⟨W1.heap.size,0,none⟩=some (.string T.tag.s)/\V.cell? ⟨W1.heap.size,1,none⟩=some (.slice T.tag.A T.tag.n T.tag.c)/\V.cell? ⟨W1.heap.size,2,none⟩=some (.slice T.A T.n T.c)/\V.cell? ⟨W1.heap.size,3,none⟩=some (.slice T.K T.kn T.kc)/\V.cell? ⟨W1.heap.size,4,none⟩=some (.string T.text.s)/\V.cell? ⟨W1.heap.size,5,none⟩=some (.slice T.text.A T.text.n T.text.c)):=fun V h=>by
        have y:=((HT7.out.2.1.whole HV3.out (fun h=>by omega)).drew.alloc _).grown h (fun h=>by have:=(HOWN3.out.lt _ h.symm).1;omega)
        have zt:=(HT7.out.1.drew.alloc _).grown h (fun h=>by have:=(HKL.out _ (HG.out _ h.symm)).2;omega)
        exact⟨y.at_ 0,zt.at_ 0,zt.at_ 1,zt.at_ 2,zt.at_ 3,zt.at_ 4,zt.at_ 5⟩
      have HG7':Hid (∀ (g7:Nat) (w7:World) (d7:Nat) (o:Obj),w7.ownsRow w4.heap.size 48 6 (.slice (some ⟨g7,0,none⟩) (z+1) d7) (z+1) (ze us++ zj zeroTT)->(W6.drew.alloc o).grownBy w7 (Value.slice A5 z c5).ownBlock->((Value.slice (some ⟨g7,0,none⟩) (z+1) d7).ownBlock=(Value.slice A5 z c5).ownBlock\/(Value.slice (some ⟨g7,0,none⟩) (z+1) d7).ownBlock=some (W6.drew.alloc o).heap.size)->((w7.cell? ⟨g7,z * 6,none⟩=some (.string zeroTT.tag.s)/\w7.cell? ⟨g7,z * 6+1,none⟩=some (.slice zeroTT.tag.A zeroTT.tag.n zeroTT.tag.c)/\w7.cell? ⟨g7,z * 6+2,none⟩=some (.slice zeroTT.A zeroTT.n zeroTT.c)/\w7.cell? ⟨g7,z * 6+3,none⟩=some (.slice zeroTT.K zeroTT.kn zeroTT.kc)/\w7.cell? ⟨g7,z * 6+4,none⟩=some (.string zeroTT.text.s)/\w7.cell? ⟨g7,z * 6+5,none⟩=some (.slice zeroTT.text.A zeroTT.text.n zeroTT.text.c)/\w7.frozen? ⟨g7,z * 6,none⟩=false/\w7.frozen? ⟨g7,z * 6+1,none⟩=false/\w7.frozen? ⟨g7,z * 6+2,none⟩=false/\w7.frozen? ⟨g7,z * 6+3,none⟩=false/\w7.frozen? ⟨g7,z * 6+4,none⟩=false/\w7.frozen? ⟨g7,z * 6+5,none⟩=false)/\(w7.cell? ⟨w.heap.size+1,0,none⟩=some (.slice A5 z c5)/\w7.frozen? ⟨w.heap.size+1,0,none⟩=false)/\(((((((w7.setCell ⟨g7,z * 6,none⟩ (.string T.tag.s)).setCell ⟨g7,z * 6+1,none⟩ (.slice T.tag.A T.tag.n T.tag.c)).setCell ⟨g7,z * 6+2,none⟩ (.slice T.A T.n T.c)).setCell ⟨g7,z * 6+3,none⟩ (.slice T.K T.kn T.kc)).setCell ⟨g7,z * 6+4,none⟩ (.string T.text.s)).setCell ⟨g7,z * 6+5,none⟩ (.slice T.text.A T.text.n T.text.c)).cell? ⟨w.heap.size+1,0,none⟩=some (.slice A5 z c5)/\((((((w7.setCell ⟨g7,z * 6,none⟩ (.string T.tag.s)).setCell ⟨g7,z * 6+1,none⟩ (.slice T.tag.A T.tag.n T.tag.c)).setCell ⟨g7,z * 6+2,none⟩ (.slice T.A T.n T.c)).setCell ⟨g7,z * 6+3,none⟩ (.slice T.K T.kn T.kc)).setCell ⟨g7,z * 6+4,none⟩ (.string T.text.s)).setCell ⟨g7,z * 6+5,none⟩ (.slice T.text.A T.text.n T.text.c)).frozen? ⟨w.heap.size+1,0,none⟩=false))/\(∀ u,(w7.setCell ⟨w.heap.size+1,0,none⟩ u).cell? ⟨g7,z * 6,none⟩=some (.string zeroTT.tag.s)/\(w7.setCell ⟨w.heap.size+1,0,none⟩ u).cell? ⟨g7,z * 6+1,none⟩=some (.slice zeroTT.tag.A zeroTT.tag.n zeroTT.tag.c)/\(w7.setCell ⟨w.heap.size+1,0,none⟩ u).cell? ⟨g7,z * 6+2,none⟩=some (.slice zeroTT.A zeroTT.n zeroTT.c)/\(w7.setCell ⟨w.heap.size+1,0,none⟩ u).cell? ⟨g7,z * 6+3,none⟩=some (.slice zeroTT.K zeroTT.kn zeroTT.kc)/\(w7.setCell ⟨w.heap.size+1,0,none⟩ u).cell? ⟨g7,z * 6+4,none⟩=some (.string zeroTT.text.s)/\(w7.setCell ⟨w.heap.size+1,0,none⟩ u).cell? ⟨g7,z * 6+5,none⟩=some (.slice zeroTT.text.A zeroTT.text.n zeroTT.text.c)/\(w7.setCell ⟨w.heap.size+1,0,none⟩ u).frozen? ⟨g7,z * 6,none⟩=false/\(w7.setCell ⟨w.heap.size+1,0,none⟩ u).frozen? ⟨g7,z * 6+1,none⟩=false/\(w7.setCell ⟨w.heap.size+1,0,none⟩ u).frozen? ⟨g7,z * 6+2,none⟩=false/\(w7.setCell ⟨w.heap.size+1,0,none⟩ u).frozen? ⟨g7,z * 6+3,none⟩=false/\(w7.setCell ⟨w.heap.size+1,0,none⟩ u).frozen? ⟨g7,z * 6+4,none⟩=false/\(w7.setCell ⟨w.heap.size+1,0,none⟩ u).frozen? ⟨g7,z * 6+5,none⟩=false)/\(∃ K',zfX g (w.heap.size+1) w4 (pre++ [x]) K' (((((((w7.setCell ⟨g7,z * 6,none⟩ (.string T.tag.s)).setCell ⟨g7,z * 6+1,none⟩ (.slice T.tag.A T.tag.n T.tag.c)).setCell ⟨g7,z * 6+2,none⟩ (.slice T.A T.n T.c)).setCell ⟨g7,z * 6+3,none⟩ (.slice T.K T.kn T.kc)).setCell ⟨g7,z * 6+4,none⟩ (.string T.text.s)).setCell ⟨g7,z * 6+5,none⟩ (.slice T.text.A T.text.n T.text.c)).setCell ⟨w.heap.size+1,0,none⟩ (.slice (some ⟨g7,0,none⟩) (z+1) d7))/\(∀ b,K' b->K b\/G b\/(W1.heap.size<=b/\b < (((((((w7.setCell ⟨g7,z * 6,none⟩ (.string T.tag.s)).setCell ⟨g7,z * 6+1,none⟩ (.slice T.tag.A T.tag.n T.tag.c)).setCell ⟨g7,z * 6+2,none⟩ (.slice T.A T.n T.c)).setCell ⟨g7,z * 6+3,none⟩ (.slice T.K T.kn T.kc)).setCell ⟨g7,z * 6+4,none⟩ (.string T.text.s)).setCell ⟨g7,z * 6+5,none⟩ (.slice T.text.A T.text.n T.text.c)).setCell ⟨w.heap.size+1,0,none⟩ (.slice (some ⟨g7,0,none⟩) (z+1) d7)).heap.size))/\Moved (fun b=>K b\/G b\/W1.heap.size<=b) W3 (((((((w7.setCell ⟨g7,z * 6,none⟩ (.string T.tag.s)).setCell ⟨g7,z * 6+1,none⟩ (.slice T.tag.A T.tag.n T.tag.c)).setCell ⟨g7,z * 6+2,none⟩ (.slice T.A T.n T.c)).setCell ⟨g7,z * 6+3,none⟩ (.slice T.K T.kn T.kc)).setCell ⟨g7,z * 6+4,none⟩ (.string T.text.s)).setCell ⟨g7,z * 6+5,none⟩ (.slice T.text.A T.text.n T.text.c)).setCell ⟨w.heap.size+1,0,none⟩ (.slice (some ⟨g7,0,none⟩) (z+1) d7)))/\(∃ K',zfX g (w.heap.size+1) w4 (pre++ [x]) K' (((((((w7.setCell ⟨w.heap.size+1,0,none⟩ (.slice (some ⟨g7,0,none⟩) (z+1) d7)).setCell ⟨g7,z * 6,none⟩ (.string T.tag.s)).setCell ⟨g7,z * 6+1,none⟩ (.slice T.tag.A T.tag.n T.tag.c)).setCell ⟨g7,z * 6+2,none⟩ (.slice T.A T.n T.c)).setCell ⟨g7,z * 6+3,none⟩ (.slice T.K T.kn T.kc)).setCell ⟨g7,z * 6+4,none⟩ (.string T.text.s)).setCell ⟨g7,z * 6+5,none⟩ (.slice T.text.A T.text.n T.text.c))/\(∀ b,K' b->K b\/G b\/(W1.heap.size<=b/\b < (((((((w7.setCell ⟨w.heap.size+1,0,none⟩ (.slice (some ⟨g7,0,none⟩) (z+1) d7)).setCell ⟨g7,z * 6,none⟩ (.string T.tag.s)).setCell ⟨g7,z * 6+1,none⟩ (.slice T.tag.A T.tag.n T.tag.c)).setCell ⟨g7,z * 6+2,none⟩ (.slice T.A T.n T.c)).setCell ⟨g7,z * 6+3,none⟩ (.slice T.K T.kn T.kc)).setCell ⟨g7,z * 6+4,none⟩ (.string T.text.s)).setCell ⟨g7,z * 6+5,none⟩ (.slice T.text.A T.text.n T.text.c)).heap.size))/\Moved (fun b=>K b\/G b\/W1.heap.size<=b) W3 (((((((w7.setCell ⟨w.heap.size+1,0,none⟩ (.slice (some ⟨g7,0,none⟩) (z+1) d7)).setCell ⟨g7,z * 6,none⟩ (.string T.tag.s)).setCell ⟨g7,z * 6+1,none⟩ (.slice T.tag.A T.tag.n T.tag.c)).setCell ⟨g7,z * 6+2,none⟩ (.slice T.A T.n T.c)).setCell ⟨g7,z * 6+3,none⟩ (.slice T.K T.kn T.kc)).setCell ⟨g7,z * 6+4,none⟩ (.string T.text.s)).setCell ⟨g7,z * 6+5,none⟩ (.slice T.text.A T.text.n T.text.c)))):=fun g7 w7 d7 o q1 q2 q3=>HG7.out T W6.drew w7 d7 g7 o (zha HT7.out) q1 q2 q3
      have hS:=HSB7.out W6.drew (Below.drew (Below.refl _ _))
      clear HT6
      gi_wp2_with fail
      refine zch (by kernel_rfl) rfl (zdG fun _ _ h=>by obtain⟨h1,_⟩:=h;cases h1) ?_
      refine zay (S:=fun V=>V.cell? ⟨w.heap.size+1,0,none⟩=some (.slice A5 z c5)/\V.cell? ⟨W1.heap.size,0,none⟩=some (.string T.tag.s)/\V.cell? ⟨W1.heap.size,1,none⟩=some (.slice T.tag.A T.tag.n T.tag.c)/\V.cell? ⟨W1.heap.size,2,none⟩=some (.slice T.A T.n T.c)/\V.cell? ⟨W1.heap.size,3,none⟩=some (.slice T.K T.kn T.kc)/\V.cell? ⟨W1.heap.size,4,none⟩=some (.string T.text.s)/\V.cell? ⟨W1.heap.size,5,none⟩=some (.slice T.text.A T.text.n T.text.c)) (Z:=fun i=>decide (5<=i)) _ _ _ _ ?_
      refine' zb (i:=0) ?i15 (by kernel_rfl) (by kernel_rfl) (by kernel_rfl) (by kernel_rfl) ?q15 ?y15 hS ?r15
      case i15=>simp only[zlD,zlE];rfl
      case q15=>exact fun _ _ _ h=>h
      case y15=>
        refine Or.inl ⟨by rfl,?_⟩
        intro wq hq
        try dsimp only at hq
        try obtain⟨hq0,hq1,hq2,hq3,hq4,hq5,hq6⟩:=hq
        go_simp
        try with_reducible rfl
      try simp only[Act.put,zlA,zlB,zlC]
      refine' zb (i:=1) ?i16 (by kernel_rfl) (by kernel_rfl) (by kernel_rfl) (by kernel_rfl) ?q16 ?y16 hS ?r16
      case i16=>simp only[zlD,zlF,zlE];rfl
      case q16=>exact fun _ _ _ h=>h
      case y16=>
        refine Or.inl ⟨by rfl,?_⟩
        intro wq hq
        try dsimp only at hq
        try obtain⟨hq0,hq1,hq2,hq3,hq4,hq5,hq6⟩:=hq
        go_simp
        try with_reducible rfl
      try simp only[Act.put,zlA,zlB,zlC]
      refine' zb (i:=2) ?i17 (by kernel_rfl) (by kernel_rfl) (by kernel_rfl) (by kernel_rfl) ?q17 ?y17 hS ?r17
      case i17=>simp only[zlD,zlF,zlE];rfl
      case q17=>exact fun _ _ _ h=>h
      case y17=>
        refine Or.inl ⟨by rfl,?_⟩
        intro wq hq
        try dsimp only at hq
        try obtain⟨hq0,hq1,hq2,hq3,hq4,hq5,hq6⟩:=hq
        go_simp
        try with_reducible rfl
      try simp only[Act.put,zlA,zlB,zlC]
      refine za (rs:=[3]) (by kernel_rfl) (by simp) ?_
      refine' ReadyL.cons ?o18 (fun K hK=>?s18) ReadyL.nil
      case o18=>simp only[zlD,zlF,zlE];rfl
      go_simp
      refine hK.out _ _ (.inr (HSB7.out _ ((Below.drew (Below.refl W6.heap.size W6)).alloc (Nat.le_refl _) _))) ?_
      clear hK K hS
      try simp only[Act.put,zlA,zlB,zlC]
      refine za (rs:=[4]) (by kernel_rfl) (by simp) ?_
      refine' ReadyL.cons ?o19 (fun K hK=>?s19) ReadyL.nil
      case o19=>simp only[zlD,zlF,zlE];rfl
      refine zA _ rfl _ _ 27 rfl w4.heap.size 48 i0 _ 6 128 Tryz.underlying27 hi hiz0 hiz1 hiz2 rfl (by decide) (.slice A5 z c5) z (ze us) rfl HOWN6.out (W6.heap.size+1) (some ⟨W6.heap.size,0,none⟩) 1 1 (zj zeroTT) rfl (by simp) rfl (zi2 W6.drew _ _) (zaZ _) (by simp only[maxLen];omega) (by omega) (by simp;omega) ?_
      intro v' w7 hown7 hgr hv'
      obtain⟨A7,d7,rfl,_,_,_⟩:=zh hown7
      obtain⟨g7,rfl⟩:∃ g7,A7=some ⟨g7,0,none⟩:=zi1 hown7 (Nat.succ_pos _)
      have HGO:=Lib.hid (HG7'.out g7 w7 d7 _ hown7 hgr hv')
      have HGA:=Lib.hid HGO.out.1.1
      have HGB:=Lib.hid HGO.out.1.2.1
      have HGC:=Lib.hid HGO.out.1.2.2
      have HGD:=Lib.hid HGO.out.2.1
      have HGE:=Lib.hid HGO.out.2.2.1
      have HGF:=Lib.hid HGO.out.2.2.2
      clear HGO HG7'
      have hS7:=HS7.out _ hgr
      refine hK.out _ _ (.inr hS7) ?_
      clear hK K
      try simp only[Act.put,zlA,zlB,zlC]
      have hk0:(0:Int)<=(z:Int):=Int.natCast_nonneg _
      have hk1:(z:Int) < ((z+1:Nat):Int):=by omega
      have hk2:(z:Int) < (z:Int)+1:=by omega
      refine za (rs:=[5,7]) (by kernel_rfl) (by simp) ?_
      refine' ReadyL.cons ?o20 (fun K hK=>?s20) ?m20
      case o20=>simp only[zlD,zlF,zlE];rfl
      case s20=>
        go_simp
        refine hK.out _ _ (.inl (by decide)) ?_
        clear hK K
        try simp only[Act.put,zlA,zlB,zlC]
        refine za (rs:=[6,7]) (by kernel_rfl) (by simp) ?_
        refine' ReadyL.cons ?o21 (fun K hK=>?s21) ?m21
        case o21=>simp only[zlD,zlF,zlE];rfl
        case s21=>
          obtain⟨k0,k1,k2,k3,k4,k5,f0,f1,f2,f3,f4,f5⟩:=HGA.out
          go_simp
          refine hK.out _ _ (.inl (by decide)) ?_
          clear k0 k1 k2 k3 k4 k5 f0 f1 f2 f3 f4 f5
          clear hK K
          try simp only[Act.put,zlA,zlB,zlC]
          refine za (rs:=[7]) (by kernel_rfl) (by simp) ?_
          refine' ReadyL.cons ?o22 (fun K hK=>?s22) ReadyL.nil
          case o22=>simp only[zlD,zlF,zlE];rfl
          have k6:=HGC.out.1
          have f6:=HGC.out.2
          go_simp
          refine hK.out _ _ (.inl (by decide)) ?_
          clear k6 f6
          clear hK K
          try simp only[Act.put,zlA,zlB,zlC]
          refine zg (by kernel_rfl) ?_ _
          refine⟨rfl,?_⟩
          obtain⟨K9,q1,q2,q3⟩:=HGE.out
          exact⟨K9,q1,fun b h=>(q2 b h).imp id fun h=>h.imp id fun h=>⟨h.1,by simpa [World.setCell]using h.2⟩,q3⟩
        refine' ReadyL.cons ?o23 (fun K hK=>?s23) ReadyL.nil
        case o23=>simp only[zlD,zlF,zlE];rfl
        have k6:=HGB.out.1
        have f6:=HGB.out.2
        go_simp
        refine hK.out _ _ (.inl (by decide)) ?_
        clear k6 f6
        clear hK K
        try simp only[Act.put,zlA,zlB,zlC]
        refine za (rs:=[6]) (by kernel_rfl) (by simp) ?_
        refine' ReadyL.cons ?o24 (fun K hK=>?s24) ReadyL.nil
        case o24=>simp only[zlD,zlF,zlE];rfl
        obtain⟨k0,k1,k2,k3,k4,k5,f0,f1,f2,f3,f4,f5⟩:=HGD.out (.slice (some ⟨g7,0,none⟩) (z+1) d7)
        go_simp
        refine hK.out _ _ (.inl (by decide)) ?_
        clear k0 k1 k2 k3 k4 k5 f0 f1 f2 f3 f4 f5
        clear hK K
        try simp only[Act.put,zlA,zlB,zlC]
        refine zg (by kernel_rfl) ?_ _
        refine⟨rfl,?_⟩
        obtain⟨K9,q1,q2,q3⟩:=HGF.out
        exact⟨K9,q1,fun b h=>(q2 b h).imp id fun h=>h.imp id fun h=>⟨h.1,by simpa [World.setCell]using h.2⟩,q3⟩
      refine' ReadyL.cons ?o25 (fun K hK=>?s25) ReadyL.nil
      case o25=>simp only[zlD,zlF,zlE];rfl
      have k6:=HGB.out.1
      have f6:=HGB.out.2
      go_simp
      refine hK.out _ _ (.inl (by decide)) ?_
      clear k6 f6
      clear hK K
      try simp only[Act.put,zlA,zlB,zlC]
      refine za (rs:=[5]) (by kernel_rfl) (by simp) ?_
      refine' ReadyL.cons ?o26 (fun K hK=>?s26) ReadyL.nil
      case o26=>simp only[zlD,zlF,zlE];rfl
      go_simp
      refine hK.out _ _ (.inl (by decide)) ?_
      clear hK K
      try simp only[Act.put,zlA,zlB,zlC]
      refine za (rs:=[6]) (by kernel_rfl) (by simp) ?_
      refine' ReadyL.cons ?o27 (fun K hK=>?s27) ReadyL.nil
      case o27=>simp only[zlD,zlF,zlE];rfl
      obtain⟨k0,k1,k2,k3,k4,k5,f0,f1,f2,f3,f4,f5⟩:=HGD.out (.slice (some ⟨g7,0,none⟩) (z+1) d7)
      go_simp
      refine hK.out _ _ (.inl (by decide)) ?_
      clear k0 k1 k2 k3 k4 k5 f0 f1 f2 f3 f4 f5
      clear hK K
      try simp only[Act.put,zlA,zlB,zlC]
      refine zg (by kernel_rfl) ?_ _
      refine⟨rfl,?_⟩
      obtain⟨K9,q1,q2,q3⟩:=HGF.out
      exact⟨K9,q1,fun b h=>(q2 b h).imp id fun h=>h.imp id fun h=>⟨h.1,by simpa [World.setCell]using h.2⟩,q3⟩
    | false=>
      have HTG:Hid (x.ch=txT x.text.ch):=by
        have h1:x.ch.tag=[]:=by
          rw[TT.ch_tag]
          have h2:=hel
          unfold elB at h2
          simpa using h2
        have h3:=(HOS.out.1 h1).1
        rw[TT.ch_text]at h3
        exact h3
      clear hel
      have HEL:Hid (∀ (t1:LT) (w7:World),Below W4.heap.size W4 w7->t1.ch=g x.text.ch->OwnL w7 W4.heap.size t1->zh4 g W1 W3 x (txTT t1) ((((((w7.setCell ⟨W1.heap.size,0,none⟩ (.string ⟨#[]⟩)).setCell ⟨W1.heap.size,1,none⟩ (.slice none 0 0)).setCell ⟨W1.heap.size,2,none⟩ (.slice none 0 0)).setCell ⟨W1.heap.size,3,none⟩ (.slice none 0 0)).setCell ⟨W1.heap.size,4,none⟩ (.string t1.s)).setCell ⟨W1.heap.size,5,none⟩ (.slice t1.A t1.n t1.c))):=by
        intro t1 w7 hb47 q1 o1
        have z7:=(HCELLS.out w7 hb47).2.1
        have hb37:=(HCELLS.out w7 hb47).2.2
        have hmc:Moved (fun b=>b=W1.heap.size) w7 ((((((w7.setCell ⟨W1.heap.size,0,none⟩ (.string ⟨#[]⟩)).setCell ⟨W1.heap.size,1,none⟩ (.slice none 0 0)).setCell ⟨W1.heap.size,2,none⟩ (.slice none 0 0)).setCell ⟨W1.heap.size,3,none⟩ (.slice none 0 0)).setCell ⟨W1.heap.size,4,none⟩ (.string t1.s)).setCell ⟨W1.heap.size,5,none⟩ (.slice t1.A t1.n t1.c)):=((((((Moved.refl (fun b=>b=W1.heap.size) w7).setCell (p:=⟨W1.heap.size,0,none⟩) rfl _).setCell (p:=⟨W1.heap.size,1,none⟩) rfl _).setCell (p:=⟨W1.heap.size,2,none⟩) rfl _).setCell (p:=⟨W1.heap.size,3,none⟩) rfl _).setCell (p:=⟨W1.heap.size,4,none⟩) rfl _).setCell (p:=⟨W1.heap.size,5,none⟩) rfl _
        have hst:Stays (fun b=>W1.heap.size < b) w7 ((((((w7.setCell ⟨W1.heap.size,0,none⟩ (.string ⟨#[]⟩)).setCell ⟨W1.heap.size,1,none⟩ (.slice none 0 0)).setCell ⟨W1.heap.size,2,none⟩ (.slice none 0 0)).setCell ⟨W1.heap.size,3,none⟩ (.slice none 0 0)).setCell ⟨W1.heap.size,4,none⟩ (.string t1.s)).setCell ⟨W1.heap.size,5,none⟩ (.slice t1.A t1.n t1.c)):=hmc.stays fun i _ h h2=>by omega
        refine⟨?_,(Moved.of_below hb37).join hmc fun _ _ h=>h,?_,AllS.nil _ _,?_⟩
        . exact((((((z7.put 0 _).put 1 _).put 2 _).put 3 _).put 4 _).put 5 _)
        . have hx:t1.inS (fun b=>W1.heap.size < b) w7:=o1.inS.mono fun b h _=>by have:W4.heap.size<=b:=h;show W1.heap.size < b;omega
          exact⟨⟨LiesS.nil _ _ _,rfl,Nat.zero_le _,Nat.zero_le _⟩,hx.keep hst,LiesS.nil _ _ _,rfl,fun _=>rfl,Nat.zero_le _,(by intro a ha;cases ha),LiesS.nil _ _ _,rfl,fun _=>rfl,Nat.zero_le _⟩
        . refine⟨?_,fun _=>⟨rfl,rfl⟩⟩
          rw[zh0,HTG.out,zpS HG0.out,q1]
      gi_wp2_with fail
      rw[HF.out.enters,Oper.uponIn_enter]
      refine⟨(fun hd=>by cases hd),CallsIn.inRound l (callsIn_wide.2 ((HF.out.tells x.text W4 (HSHV.out W4 (Below.refl _ _)).1.text.ok).mono ?_))⟩
      rintro e w7 ⟨t1,rfl,h1,hb7⟩
      clear a0 a1 a2 a3 a4 a5 a6
      obtain⟨a0,a1,a2,a3,a4,a5,a6⟩:=HSB.out w7 hb7
      obtain⟨g0,g1,g2,g3,g4,g5⟩:=HFR.out w7 hb7
      have HT6:=Lib.hid (HEL.out t1 w7 hb7 h1.out.1 h1.out.2)
      generalize hW6:((((((w7.setCell ⟨W1.heap.size,0,none⟩ (.string ⟨#[]⟩)).setCell ⟨W1.heap.size,1,none⟩ (.slice none 0 0)).setCell ⟨W1.heap.size,2,none⟩ (.slice none 0 0)).setCell ⟨W1.heap.size,3,none⟩ (.slice none 0 0)).setCell ⟨W1.heap.size,4,none⟩ (.string t1.s)).setCell ⟨W1.heap.size,5,none⟩ (.slice t1.A t1.n t1.c))=W6 at HT6
      clear hb7 h1
      gi_wp2_with fail
      clear a0 a1 a2 a3 a4 a5 a6 g0 g1 g2 g3 g4 g5
      obtain⟨T,HT7⟩:∃ T,Hid (zh4 g W1 W3 x T W6):=⟨_,HT6⟩
      have hz36:=HT7.out.2.1.size
      have HOWN6:Hid ((W6.drew.alloc (.cells #[.string ⟨#[]⟩,.slice none 0 0,.slice none 0 0,.slice none 0 0,.string ⟨#[]⟩,.slice none 0 0] 48)).ownsRow w4.heap.size 48 6 (.slice A5 z c5) z (ze us)):=(HT7.out.2.1.own HOWN3.out (fun i hi h=>by have:=(HKL.out i (HG.out i hi)).2;omega)).alloc _
      have HSB7:Hid (∀ V,Below W6.heap.size W6 V->V.cell? ⟨w.heap.size+1,0,none⟩=some (.slice A5 z c5)/\V.cell? ⟨W1.heap.size,0,none⟩=some (.string T.tag.s)/\V.cell? ⟨W1.heap.size,1,none⟩=some (.slice T.tag.A T.tag.n T.tag.c)/\V.cell? ⟨W1.heap.size,2,none⟩=some (.slice T.A T.n T.c)/\V.cell? ⟨W1.heap.size,3,none⟩=some (.slice T.K T.kn T.kc)/\V.cell? ⟨W1.heap.size,4,none⟩=some (.string T.text.s)/\V.cell? ⟨W1.heap.size,5,none⟩=some (.slice T.text.A T.text.n T.text.c)):=fun V h=>by
        have y:=(HT7.out.2.1.whole HV3.out (fun h=>by omega)).below h (by have:=HV3.out.lt;omega)
        have zt:=HT7.out.1.below h HT7.out.1.lt
        exact⟨y.at_ 0,zt.at_ 0,zt.at_ 1,zt.at_ 2,zt.at_ 3,zt.at_ 4,zt.at_ 5⟩
      have HS7:Hid (∀ V,(W6.drew.alloc (.cells #[.string ⟨#[]⟩,.slice none 0 0,.slice none 0 0,.slice none 0 0,.string ⟨#[]⟩,.slice none 0 0] 48)).grownBy V (Value.slice A5 z c5).ownBlock->V.cell? ⟨w.heap.size+1,0,none⟩=some (.slice A5 z c5)/\V.cell? ⟨W1.heap.size,0,none⟩=some (.string T.tag.s)/\V.cell? ⟨W1.heap.size,1,none⟩=some (.slice T.tag.A T.tag.n T.tag.c)/\V.cell? ⟨W1.heap.size,2,none⟩=some (.slice T.A T.n T.c)/\V.cell? ⟨W1.heap.size,3,none⟩=some (.slice T.K T.kn T.kc)/\V.cell? ⟨W1.heap.size,4,none⟩=some (.string T.text.s)/\V.cell? ⟨W1.heap.size,5,none⟩=some (.slice T.text.A T.text.n T.text.c)):=fun V h=>by
        have y:=((HT7.out.2.1.whole HV3.out (fun h=>by omega)).drew.alloc _).grown h (fun h=>by have:=(HOWN3.out.lt _ h.symm).1;omega)
        have zt:=(HT7.out.1.drew.alloc _).grown h (fun h=>by have:=(HKL.out _ (HG.out _ h.symm)).2;omega)
        exact⟨y.at_ 0,zt.at_ 0,zt.at_ 1,zt.at_ 2,zt.at_ 3,zt.at_ 4,zt.at_ 5⟩
      have HG7':Hid (∀ (g7:Nat) (w7:World) (d7:Nat) (o:Obj),w7.ownsRow w4.heap.size 48 6 (.slice (some ⟨g7,0,none⟩) (z+1) d7) (z+1) (ze us++ zj zeroTT)->(W6.drew.alloc o).grownBy w7 (Value.slice A5 z c5).ownBlock->((Value.slice (some ⟨g7,0,none⟩) (z+1) d7).ownBlock=(Value.slice A5 z c5).ownBlock\/(Value.slice (some ⟨g7,0,none⟩) (z+1) d7).ownBlock=some (W6.drew.alloc o).heap.size)->((w7.cell? ⟨g7,z * 6,none⟩=some (.string zeroTT.tag.s)/\w7.cell? ⟨g7,z * 6+1,none⟩=some (.slice zeroTT.tag.A zeroTT.tag.n zeroTT.tag.c)/\w7.cell? ⟨g7,z * 6+2,none⟩=some (.slice zeroTT.A zeroTT.n zeroTT.c)/\w7.cell? ⟨g7,z * 6+3,none⟩=some (.slice zeroTT.K zeroTT.kn zeroTT.kc)/\w7.cell? ⟨g7,z * 6+4,none⟩=some (.string zeroTT.text.s)/\w7.cell? ⟨g7,z * 6+5,none⟩=some (.slice zeroTT.text.A zeroTT.text.n zeroTT.text.c)/\w7.frozen? ⟨g7,z * 6,none⟩=false/\w7.frozen? ⟨g7,z * 6+1,none⟩=false/\w7.frozen? ⟨g7,z * 6+2,none⟩=false/\w7.frozen? ⟨g7,z * 6+3,none⟩=false/\w7.frozen? ⟨g7,z * 6+4,none⟩=false/\w7.frozen? ⟨g7,z * 6+5,none⟩=false)/\(w7.cell? ⟨w.heap.size+1,0,none⟩=some (.slice A5 z c5)/\w7.frozen? ⟨w.heap.size+1,0,none⟩=false)/\(((((((w7.setCell ⟨g7,z * 6,none⟩ (.string T.tag.s)).setCell ⟨g7,z * 6+1,none⟩ (.slice T.tag.A T.tag.n T.tag.c)).setCell ⟨g7,z * 6+2,none⟩ (.slice T.A T.n T.c)).setCell ⟨g7,z * 6+3,none⟩ (.slice T.K T.kn T.kc)).setCell ⟨g7,z * 6+4,none⟩ (.string T.text.s)).setCell ⟨g7,z * 6+5,none⟩ (.slice T.text.A T.text.n T.text.c)).cell? ⟨w.heap.size+1,0,none⟩=some (.slice A5 z c5)/\((((((w7.setCell ⟨g7,z * 6,none⟩ (.string T.tag.s)).setCell ⟨g7,z * 6+1,none⟩ (.slice T.tag.A T.tag.n T.tag.c)).setCell ⟨g7,z * 6+2,none⟩ (.slice T.A T.n T.c)).setCell ⟨g7,z * 6+3,none⟩ (.slice T.K T.kn T.kc)).setCell ⟨g7,z * 6+4,none⟩ (.string T.text.s)).setCell ⟨g7,z * 6+5,none⟩ (.slice T.text.A T.text.n T.text.c)).frozen? ⟨w.heap.size+1,0,none⟩=false))/\(∀ u,(w7.setCell ⟨w.heap.size+1,0,none⟩ u).cell? ⟨g7,z * 6,none⟩=some (.string zeroTT.tag.s)/\(w7.setCell ⟨w.heap.size+1,0,none⟩ u).cell? ⟨g7,z * 6+1,none⟩=some (.slice zeroTT.tag.A zeroTT.tag.n zeroTT.tag.c)/\(w7.setCell ⟨w.heap.size+1,0,none⟩ u).cell? ⟨g7,z * 6+2,none⟩=some (.slice zeroTT.A zeroTT.n zeroTT.c)/\(w7.setCell ⟨w.heap.size+1,0,none⟩ u).cell? ⟨g7,z * 6+3,none⟩=some (.slice zeroTT.K zeroTT.kn zeroTT.kc)/\(w7.setCell ⟨w.heap.size+1,0,none⟩ u).cell? ⟨g7,z * 6+4,none⟩=some (.string zeroTT.text.s)/\(w7.setCell ⟨w.heap.size+1,0,none⟩ u).cell? ⟨g7,z * 6+5,none⟩=some (.slice zeroTT.text.A zeroTT.text.n zeroTT.text.c)/\(w7.setCell ⟨w.heap.size+1,0,none⟩ u).frozen? ⟨g7,z * 6,none⟩=false/\(w7.setCell ⟨w.heap.size+1,0,none⟩ u).frozen? ⟨g7,z * 6+1,none⟩=false/\(w7.setCell ⟨w.heap.size+1,0,none⟩ u).frozen? ⟨g7,z * 6+2,none⟩=false/\(w7.setCell ⟨w.heap.size+1,0,none⟩ u).frozen? ⟨g7,z * 6+3,none⟩=false/\(w7.setCell ⟨w.heap.size+1,0,none⟩ u).frozen? ⟨g7,z * 6+4,none⟩=false/\(w7.setCell ⟨w.heap.size+1,0,none⟩ u).frozen? ⟨g7,z * 6+5,none⟩=false)/\(∃ K',zfX g (w.heap.size+1) w4 (pre++ [x]) K' (((((((w7.setCell ⟨g7,z * 6,none⟩ (.string T.tag.s)).setCell ⟨g7,z * 6+1,none⟩ (.slice T.tag.A T.tag.n T.tag.c)).setCell ⟨g7,z * 6+2,none⟩ (.slice T.A T.n T.c)).setCell ⟨g7,z * 6+3,none⟩ (.slice T.K T.kn T.kc)).setCell ⟨g7,z * 6+4,none⟩ (.string T.text.s)).setCell ⟨g7,z * 6+5,none⟩ (.slice T.text.A T.text.n T.text.c)).setCell ⟨w.heap.size+1,0,none⟩ (.slice (some ⟨g7,0,none⟩) (z+1) d7))/\(∀ b,K' b->K b\/G b\/(W1.heap.size<=b/\b < (((((((w7.setCell ⟨g7,z * 6,none⟩ (.string T.tag.s)).setCell ⟨g7,z * 6+1,none⟩ (.slice T.tag.A T.tag.n T.tag.c)).setCell ⟨g7,z * 6+2,none⟩ (.slice T.A T.n T.c)).setCell ⟨g7,z * 6+3,none⟩ (.slice T.K T.kn T.kc)).setCell ⟨g7,z * 6+4,none⟩ (.string T.text.s)).setCell ⟨g7,z * 6+5,none⟩ (.slice T.text.A T.text.n T.text.c)).setCell ⟨w.heap.size+1,0,none⟩ (.slice (some ⟨g7,0,none⟩) (z+1) d7)).heap.size))/\Moved (fun b=>K b\/G b\/W1.heap.size<=b) W3 (((((((w7.setCell ⟨g7,z * 6,none⟩ (.string T.tag.s)).setCell ⟨g7,z * 6+1,none⟩ (.slice T.tag.A T.tag.n T.tag.c)).setCell ⟨g7,z * 6+2,none⟩ (.slice T.A T.n T.c)).setCell ⟨g7,z * 6+3,none⟩ (.slice T.K T.kn T.kc)).setCell ⟨g7,z * 6+4,none⟩ (.string T.text.s)).setCell ⟨g7,z * 6+5,none⟩ (.slice T.text.A T.text.n T.text.c)).setCell ⟨w.heap.size+1,0,none⟩ (.slice (some ⟨g7,0,none⟩) (z+1) d7)))/\(∃ K',zfX g (w.heap.size+1) w4 (pre++ [x]) K' (((((((w7.setCell ⟨w.heap.size+1,0,none⟩ (.slice (some ⟨g7,0,none⟩) (z+1) d7)).setCell ⟨g7,z * 6,none⟩ (.string T.tag.s)).setCell ⟨g7,z * 6+1,none⟩ (.slice T.tag.A T.tag.n T.tag.c)).setCell ⟨g7,z * 6+2,none⟩ (.slice T.A T.n T.c)).setCell ⟨g7,z * 6+3,none⟩ (.slice T.K T.kn T.kc)).setCell ⟨g7,z * 6+4,none⟩ (.string T.text.s)).setCell ⟨g7,z * 6+5,none⟩ (.slice T.text.A T.text.n T.text.c))/\(∀ b,K' b->K b\/G b\/(W1.heap.size<=b/\b < (((((((w7.setCell ⟨w.heap.size+1,0,none⟩ (.slice (some ⟨g7,0,none⟩) (z+1) d7)).setCell ⟨g7,z * 6,none⟩ (.string T.tag.s)).setCell ⟨g7,z * 6+1,none⟩ (.slice T.tag.A T.tag.n T.tag.c)).setCell ⟨g7,z * 6+2,none⟩ (.slice T.A T.n T.c)).setCell ⟨g7,z * 6+3,none⟩ (.slice T.K T.kn T.kc)).setCell ⟨g7,z * 6+4,none⟩ (.string T.text.s)).setCell ⟨g7,z * 6+5,none⟩ (.slice T.text.A T.text.n T.text.c)).heap.size))/\Moved (fun b=>K b\/G b\/W1.heap.size<=b) W3 (((((((w7.setCell ⟨w.heap.size+1,0,none⟩ (.slice (some ⟨g7,0,none⟩) (z+1) d7)).setCell ⟨g7,z * 6,none⟩ (.string T.tag.s)).setCell ⟨g7,z * 6+1,none⟩ (.slice T.tag.A T.tag.n T.tag.c)).setCell ⟨g7,z * 6+2,none⟩ (.slice T.A T.n T.c)).setCell ⟨g7,z * 6+3,none⟩ (.slice T.K T.kn T.kc)).setCell ⟨g7,z * 6+4,none⟩ (.string T.text.s)).setCell ⟨g7,z * 6+5,none⟩ (.slice T.text.A T.text.n T.text.c)))):=fun g7 w7 d7 o q1 q2 q3=>HG7.out T W6.drew w7 d7 g7 o (zha HT7.out) q1 q2 q3
      have hS:=HSB7.out W6.drew (Below.drew (Below.refl _ _))
      clear HT6
      gi_wp2_with fail
      refine zch (by kernel_rfl) rfl (zdG fun _ _ h=>by obtain⟨h1,_⟩:=h;cases h1) ?_
      refine zay (S:=fun V=>V.cell? ⟨w.heap.size+1,0,none⟩=some (.slice A5 z c5)/\V.cell? ⟨W1.heap.size,0,none⟩=some (.string T.tag.s)/\V.cell? ⟨W1.heap.size,1,none⟩=some (.slice T.tag.A T.tag.n T.tag.c)/\V.cell? ⟨W1.heap.size,2,none⟩=some (.slice T.A T.n T.c)/\V.cell? ⟨W1.heap.size,3,none⟩=some (.slice T.K T.kn T.kc)/\V.cell? ⟨W1.heap.size,4,none⟩=some (.string T.text.s)/\V.cell? ⟨W1.heap.size,5,none⟩=some (.slice T.text.A T.text.n T.text.c)) (Z:=fun i=>decide (5<=i)) _ _ _ _ ?_
      refine' zb (i:=0) ?i28 (by kernel_rfl) (by kernel_rfl) (by kernel_rfl) (by kernel_rfl) ?q28 ?y28 hS ?r28
      case i28=>simp only[zlD,zlE];rfl
      case q28=>exact fun _ _ _ h=>h
      case y28=>
        refine Or.inl ⟨by rfl,?_⟩
        intro wq hq
        try dsimp only at hq
        try obtain⟨hq0,hq1,hq2,hq3,hq4,hq5,hq6⟩:=hq
        go_simp
        try with_reducible rfl
      try simp only[Act.put,zlA,zlB,zlC]
      refine' zb (i:=1) ?i29 (by kernel_rfl) (by kernel_rfl) (by kernel_rfl) (by kernel_rfl) ?q29 ?y29 hS ?r29
      case i29=>simp only[zlD,zlF,zlE];rfl
      case q29=>exact fun _ _ _ h=>h
      case y29=>
        refine Or.inl ⟨by rfl,?_⟩
        intro wq hq
        try dsimp only at hq
        try obtain⟨hq0,hq1,hq2,hq3,hq4,hq5,hq6⟩:=hq
        go_simp
        try with_reducible rfl
      try simp only[Act.put,zlA,zlB,zlC]
      refine' zb (i:=2) ?i30 (by kernel_rfl) (by kernel_rfl) (by kernel_rfl) (by kernel_rfl) ?q30 ?y30 hS ?r30
      case i30=>simp only[zlD,zlF,zlE];rfl
      case q30=>exact fun _ _ _ h=>h
      case y30=>
        refine Or.inl ⟨by rfl,?_⟩
        intro wq hq
        try dsimp only at hq
        try obtain⟨hq0,hq1,hq2,hq3,hq4,hq5,hq6⟩:=hq
        go_simp
        try with_reducible rfl
      try simp only[Act.put,zlA,zlB,zlC]
      refine za (rs:=[3]) (by kernel_rfl) (by simp) ?_
      refine' ReadyL.cons ?o31 (fun K hK=>?s31) ReadyL.nil
      case o31=>simp only[zlD,zlF,zlE];rfl
      go_simp
      refine hK.out _ _ (.inr (HSB7.out _ ((Below.drew (Below.refl W6.heap.size W6)).alloc (Nat.le_refl _) _))) ?_
      clear hK K hS
      try simp only[Act.put,zlA,zlB,zlC]
      refine za (rs:=[4]) (by kernel_rfl) (by simp) ?_
      refine' ReadyL.cons ?o32 (fun K hK=>?s32) ReadyL.nil
      case o32=>simp only[zlD,zlF,zlE];rfl
      refine zA _ rfl _ _ 27 rfl w4.heap.size 48 i0 _ 6 128 Tryz.underlying27 hi hiz0 hiz1 hiz2 rfl (by decide) (.slice A5 z c5) z (ze us) rfl HOWN6.out (W6.heap.size+1) (some ⟨W6.heap.size,0,none⟩) 1 1 (zj zeroTT) rfl (by simp) rfl (zi2 W6.drew _ _) (zaZ _) (by simp only[maxLen];omega) (by omega) (by simp;omega) ?_
      intro v' w7 hown7 hgr hv'
      obtain⟨A7,d7,rfl,_,_,_⟩:=zh hown7
      obtain⟨g7,rfl⟩:∃ g7,A7=some ⟨g7,0,none⟩:=zi1 hown7 (Nat.succ_pos _)
      have HGO:=Lib.hid (HG7'.out g7 w7 d7 _ hown7 hgr hv')
      have HGA:=Lib.hid HGO.out.1.1
      have HGB:=Lib.hid HGO.out.1.2.1
      have HGC:=Lib.hid HGO.out.1.2.2
      have HGD:=Lib.hid HGO.out.2.1
      have HGE:=Lib.hid HGO.out.2.2.1
      have HGF:=Lib.hid HGO.out.2.2.2
      clear HGO HG7'
      have hS7:=HS7.out _ hgr
      refine hK.out _ _ (.inr hS7) ?_
      clear hK K
      try simp only[Act.put,zlA,zlB,zlC]
      have hk0:(0:Int)<=(z:Int):=Int.natCast_nonneg _
      have hk1:(z:Int) < ((z+1:Nat):Int):=by omega
      have hk2:(z:Int) < (z:Int)+1:=by omega
      refine za (rs:=[5,7]) (by kernel_rfl) (by simp) ?_
      refine' ReadyL.cons ?o33 (fun K hK=>?s33) ?m33
      case o33=>simp only[zlD,zlF,zlE];rfl
      case s33=>
        go_simp
        refine hK.out _ _ (.inl (by decide)) ?_
        clear hK K
        try simp only[Act.put,zlA,zlB,zlC]
        refine za (rs:=[6,7]) (by kernel_rfl) (by simp) ?_
        refine' ReadyL.cons ?o34 (fun K hK=>?s34) ?m34
        case o34=>simp only[zlD,zlF,zlE];rfl
        case s34=>
          obtain⟨k0,k1,k2,k3,k4,k5,f0,f1,f2,f3,f4,f5⟩:=HGA.out
          go_simp
          refine hK.out _ _ (.inl (by decide)) ?_
          clear k0 k1 k2 k3 k4 k5 f0 f1 f2 f3 f4 f5
          clear hK K
          try simp only[Act.put,zlA,zlB,zlC]
          refine za (rs:=[7]) (by kernel_rfl) (by simp) ?_
          refine' ReadyL.cons ?o35 (fun K hK=>?s35) ReadyL.nil
          case o35=>simp only[zlD,zlF,zlE];rfl
          have k6:=HGC.out.1
          have f6:=HGC.out.2
          go_simp
          refine hK.out _ _ (.inl (by decide)) ?_
          clear k6 f6
          clear hK K
          try simp only[Act.put,zlA,zlB,zlC]
          refine zg (by kernel_rfl) ?_ _
          refine⟨rfl,?_⟩
          obtain⟨K9,q1,q2,q3⟩:=HGE.out
          exact⟨K9,q1,fun b h=>(q2 b h).imp id fun h=>h.imp id fun h=>⟨h.1,by simpa [World.setCell]using h.2⟩,q3⟩
        refine' ReadyL.cons ?o36 (fun K hK=>?s36) ReadyL.nil
        case o36=>simp only[zlD,zlF,zlE];rfl
        have k6:=HGB.out.1
        have f6:=HGB.out.2
        go_simp
        refine hK.out _ _ (.inl (by decide)) ?_
        clear k6 f6
        clear hK K
        try simp only[Act.put,zlA,zlB,zlC]
        refine za (rs:=[6]) (by kernel_rfl) (by simp) ?_
        refine' ReadyL.cons ?o37 (fun K hK=>?s37) ReadyL.nil
        case o37=>simp only[zlD,zlF,zlE];rfl
        obtain⟨k0,k1,k2,k3,k4,k5,f0,f1,f2,f3,f4,f5⟩:=HGD.out (.slice (some ⟨g7,0,none⟩) (z+1) d7)
        go_simp
        refine hK.out _ _ (.inl (by decide)) ?_
        clear k0 k1 k2 k3 k4 k5 f0 f1 f2 f3 f4 f5
        clear hK K
        try simp only[Act.put,zlA,zlB,zlC]
        refine zg (by kernel_rfl) ?_ _
        refine⟨rfl,?_⟩
        obtain⟨K9,q1,q2,q3⟩:=HGF.out
        exact⟨K9,q1,fun b h=>(q2 b h).imp id fun h=>h.imp id fun h=>⟨h.1,by simpa [World.setCell]using h.2⟩,q3⟩
      refine' ReadyL.cons ?o38 (fun K hK=>?s38) ReadyL.nil
      case o38=>simp only[zlD,zlF,zlE];rfl
      have k6:=HGB.out.1
      have f6:=HGB.out.2
      go_simp
      refine hK.out _ _ (.inl (by decide)) ?_
      clear k6 f6
      clear hK K
      try simp only[Act.put,zlA,zlB,zlC]
      refine za (rs:=[5]) (by kernel_rfl) (by simp) ?_
      refine' ReadyL.cons ?o39 (fun K hK=>?s39) ReadyL.nil
      case o39=>simp only[zlD,zlF,zlE];rfl
      go_simp
      refine hK.out _ _ (.inl (by decide)) ?_
      clear hK K
      try simp only[Act.put,zlA,zlB,zlC]
      refine za (rs:=[6]) (by kernel_rfl) (by simp) ?_
      refine' ReadyL.cons ?o40 (fun K hK=>?s40) ReadyL.nil
      case o40=>simp only[zlD,zlF,zlE];rfl
      obtain⟨k0,k1,k2,k3,k4,k5,f0,f1,f2,f3,f4,f5⟩:=HGD.out (.slice (some ⟨g7,0,none⟩) (z+1) d7)
      go_simp
      refine hK.out _ _ (.inl (by decide)) ?_
      clear k0 k1 k2 k3 k4 k5 f0 f1 f2 f3 f4 f5
      clear hK K
      try simp only[Act.put,zlA,zlB,zlC]
      refine zg (by kernel_rfl) ?_ _
      refine⟨rfl,?_⟩
      obtain⟨K9,q1,q2,q3⟩:=HGF.out
      exact⟨K9,q1,fun b h=>(q2 b h).imp id fun h=>h.imp id fun h=>⟨h.1,by simpa [World.setCell]using h.2⟩,q3⟩
  case done=>
    rintro D xs K W1 hD hdx ⟨v,us,hy,hown,hg,hus,he,hkb,hkl,hm⟩ hKD hdef
    have hz41:w4.heap.size<=W1.heap.size:=hm.size
    obtain⟨A5,c5,rfl,_,_,_⟩:=zh hown
    have c3:W1.cell? ⟨w.heap.size+1,0,none⟩=some (.slice A5 us.length c5):=hy.at_ 0
    have HFIN:Hid (zeZ (fun b=>w.heap.size<=b) (mapL g (zp Q)) w (.returned (.slice A5 us.length c5)) (W1.putObj D (.deferred none))):=by
      refine⟨A5,c5,us,rfl,?_,?_,?_,?_⟩
      . exact zI (base:=w4.heap.size) ((Moved.putObj W1 D (.deferred none)).own hown fun g h h2=>hKD (h2 ▸ hg g h)) (by omega)
      . exact(hus.keep ((Moved.putObj W1 D (.deferred none)).stays fun i _ h h2=>hKD (h2 ▸ h.1))).mono fun b h _=>by have:=(hkl b h.1).1;show w.heap.size<=b;omega
      . refine⟨?_,he.2.1,fun e=>?_⟩
        . rw[he.1,show chL xs=sibs (chL ts)from hdx,HQ.out,zlW]
        . have h5:=he.2.2 e
          injection h5 with e1 e2 e3
          exact⟨e1,e3⟩
      . refine Moved.below (S:=fun b=>w.heap.size<=b) ?_ (Nat.le_refl _) (fun k hk h=>by omega)
        exact((Moved.of_below HB4.out).join hm fun i hi h=>by omega).join (Moved.putObj _ _ _) fun i hi h=>by omega
    have HD:=Lib.hid hdef
    clear hown hy hg hus he hkb hkl hm hKD hdef hdx
    gi_wp2_with fail
    refine zej rfl HD.out ?_
    refine⟨_,results_tmp (t:=4) rfl _ _ _,?_⟩
    exact HFIN.out
end Go.Proofs.YtddgabjhligeeaaGreat.mk
namespace Go.Proofs.YtddgabjhligeeaaGreat.mk
open Go.RowKit
theorem zc0(A:Option Addr)(n c:Nat)(ts:List TT)(w:World)(h:TreesIn0 w A n ts) :
    Calls Tryz.prog 22 #[.slice A n c] w (zeZ (fun b=>w.heap.size<=b) (zp (chL ts)) w):=by
  have HC:=Lib.hid (zjX zoX rfl (chL ts) (fun b=>b < w.heap.size) A n c ts w rfl h.bulk h.lies h.all h.len (fun _ h=>h))
  rw[zo1]at HC
  clear h
  go_enter Tryz.func22,Tryz.ntmps22
  go_wp2_with fail
  refine HC.out.mono ?_
  rintro e w1 ⟨A1,c1,us,rfl,h1,h2,h3,hb⟩
  have HFIN:Hid (zeZ (fun b=>w.heap.size<=b) (zp (chL ts)) w (.returned (.slice A1 us.length c1)) w1):=⟨A1,c1,us,rfl,h1,h2,h3,hb⟩
  clear h1 h2 h3 hb HC
  go_wp2_with fail
  go_ret
  exact HFIN.out
theorem z8{P:Program}{ops:Array Oper}{Q:Exit->Act->World->Prop}{S:World->Prop}{Z:Nat->Bool}{id:Nat}{a:Act}{w:World}(hm:P.follows .mixedOrders=true)
    (h:zbI P .any ops Q S Z ops.size (Array.replicate ops.size false) a w.drew):(Code.region id ops true).wp P Q a w:=wp_region_any hm (zay _ _ _ _ h)
def zo3(base g bm:Nat)(Ao Al:Option Addr)(fr:List TT)(w w':World):Prop:=∀ b,b < w.heap.size->¬ Live base g bm Ao Al fr b->w'.heap[b]?=w.heap[b]?
def zo4(S:Nat->Prop)(base g bm:Nat)(Ao:Option Addr)(co:Nat)(fs:List TT)(t:TT)(Al:Option Addr)(cl:Nat)(L:List PT)(mn:Nat)(f:List UInt8->Int)(w w':World):Prop:=
  ∃ (K':Option Addr) (kc':Nat) (ms:List TT),BldM S w' base g bm Ao co (fs++ [t.withK K' (t.kn+ms.length) kc' (t.kids++ ms)]) Al cl [] mn f/\chL ms=zp L/\Below base w w'/\zo3 base g bm Ao Al (fs++ [t]) w w'
theorem zdo{S:Nat->Prop}{base g bm co cl mn:Nat}{Ao Al:Option Addr}{fs ls:List TT}{t:TT}{f:List UInt8->Int}(w:World)(h:BldM S w base g bm Ao co (fs++ [t]) Al cl ls mn f)(hq:bkL (chL ls)<=1048576)(hk:t.kn<=1048576)(hf:fs.length<=1048576) :
    Calls Tryz.prog 32 #[.pointer (some ⟨g,0,none⟩)] w fun e w'=>e=.returned (.tuple #[])/\zo4 S base g bm Ao co fs t Al cl (chL ls) mn f w w':=by
  obtain⟨i0,hi,hz0,hz1,hz2⟩:=info_parts zbL
  have H:=Lib.hid h
  obtain⟨bo,hao,hbo,_,_,_,k3,_,_,kf⟩:=h.cellsL
  have c1:=h.at1
  have c0:=h.at0
  have hnl:(fs++ [t]).length=fs.length+1:=by rw[List.length_append];rfl
  have hgw:=h.box.lt
  have hls:ls.length<=1048576:=by
    have h1:=zau (chL ls)
    rw[zv]at h1
    omega
  have HLA:=Lib.hid (zb3 g bo fs.length (fs++ [t]).length co w hnl (by rw[<-hao];exact c0) (by omega))
  have HMG:Hid (∀ V,Below w.heap.size w V->Calls Tryz.prog 22 #[.slice Al ls.length cl] V (zeZ (fun b=>V.heap.size<=b) (zp (chL ls)) V)):=fun V hV=>by
    have h1:=H.out.below hV
    exact zc0 Al ls.length cl ls V ⟨(zbZ h1.loo).mono (fun _ _ hb=>hb),h1.lso.mono (fun _ _ hb=>hb),rfl,hq⟩
  have HKF:Hid (∀ V,Below w.heap.size w V->V.cell? ⟨bo,fs.length * 6+3,none⟩=some (.slice t.K t.kn t.kc)/\V.cell? ⟨g,1,none⟩=some (.slice Al ls.length cl)):=fun V hV=>⟨(hV.cell hbo).trans k3,(H.out.below hV).at1⟩
  have HQL:=Lib.hid hq
  have HKFR:=Lib.hid kf
  have HAO:=Lib.hid hao
  clear h hq c0 c1 k3 kf hao
  go_enter Tryz.func32,Tryz.ntmps32
  go_wp2_with fail
  refine HLA.out.mono ?_
  rintro e w0 ⟨rfl,n0,rfl⟩
  have HB0:Hid (Below w.heap.size w (w.drewN n0)):=(Below.refl _ _).drewN n0
  generalize w.drewN n0=w0 at *
  go_upto_region 1 with fail
  go_cut [] (fun wx=>∃ (K':Option Addr) (kc':Nat) (ms:List TT),BldM S wx base g bm Ao co (fs++ [t.withK K' (t.kn+ms.length) kc' (t.kids++ ms)]) Al cl ls mn f/\chL ms=zp (chL ls)/\Below base w wx/\zo3 base g bm Ao Al (fs++ [t]) w wx)
  case first=>
    obtain⟨c3,c1⟩:=HKF.out w0 HB0.out
    have hS:w0.drew.cell? ⟨bo,fs.length * 6+3,none⟩=some (.slice t.K t.kn t.kc)/\w0.drew.cell? ⟨g,1,none⟩=some (.slice Al ls.length cl):=⟨c3,c1⟩
    refine z8 (S:=(fun V=>V.cell? ⟨bo,fs.length * 6+3,none⟩=some (.slice t.K t.kn t.kc)/\V.cell? ⟨g,1,none⟩=some (.slice Al ls.length cl))) (Z:=(fun i=>decide (11<=i))) (by kernel_rfl) ?_
    refine' zb (i:=0) ?i1 (by kernel_rfl) (by kernel_rfl) (by kernel_rfl) (by kernel_rfl) ?q1 ?y1 hS ?r1
    case i1=>simp only[zlD,zlE];rfl
    case q1=>exact fun _ _ _ h=>h
    case y1=>
      refine Or.inl ⟨by rfl,?_⟩
      intro wq hq
      try dsimp only at hq
      try obtain⟨hq0,hq1⟩:=hq
      go_simp
      try with_reducible rfl
    try simp only[Act.put,zlA,zlB,zlC]
    refine' zb (i:=1) ?i2 (by kernel_rfl) (by kernel_rfl) (by kernel_rfl) (by kernel_rfl) ?q2 ?y2 hS ?r2
    case i2=>simp only[zlD,zlF,zlE];rfl
    case q2=>exact fun _ _ _ h=>h
    case y2=>
      refine Or.inl ⟨by rfl,?_⟩
      intro wq hq
      try dsimp only at hq
      try obtain⟨hq0,hq1⟩:=hq
      go_simp
      try with_reducible rfl
    try simp only[Act.put,zlA,zlB,zlC]
    refine' zb (i:=2) ?i3 (by kernel_rfl) (by kernel_rfl) (by kernel_rfl) (by kernel_rfl) ?q3 ?y3 hS ?r3
    case i3=>simp only[zlD,zlF,zlE];rfl
    case q3=>exact fun _ _ _ h=>h
    case y3=>
      refine Or.inl ⟨by rfl,?_⟩
      intro wq hq
      try dsimp only at hq
      try obtain⟨hq0,hq1⟩:=hq
      go_simp
      try with_reducible rfl
    try simp only[Act.put,zlA,zlB,zlC]
    refine' zb (i:=3) ?i4 (by kernel_rfl) (by kernel_rfl) (by kernel_rfl) (by kernel_rfl) ?q4 ?y4 hS ?r4
    case i4=>simp only[zlD,zlF,zlE];rfl
    case q4=>exact fun _ _ _ h=>h
    case y4=>
      refine Or.inl ⟨by rfl,?_⟩
      intro wq hq
      try dsimp only at hq
      try obtain⟨hq0,hq1⟩:=hq
      go_simp
      try with_reducible rfl
    try simp only[Act.put,zlA,zlB,zlC]
    refine' zb (i:=4) ?i5 (by kernel_rfl) (by kernel_rfl) (by kernel_rfl) (by kernel_rfl) ?q5 ?y5 hS ?r5
    case i5=>simp only[zlD,zlF,zlE];rfl
    case q5=>exact fun _ _ _ h=>h
    case y5=>
      refine Or.inl ⟨by rfl,?_⟩
      intro wq hq
      try dsimp only at hq
      try obtain⟨hq0,hq1⟩:=hq
      go_simp
      try with_reducible rfl
    try simp only[Act.put,zlA,zlB,zlC]
    refine' zb (i:=5) ?i6 (by kernel_rfl) (by kernel_rfl) (by kernel_rfl) (by kernel_rfl) ?q6 ?y6 hS ?r6
    case i6=>simp only[zlD,zlF,zlE];rfl
    case q6=>exact fun _ _ _ h=>h
    case y6=>
      refine Or.inl ⟨by rfl,?_⟩
      intro wq hq
      try dsimp only at hq
      try obtain⟨hq0,hq1⟩:=hq
      go_simp
      try with_reducible rfl
    try simp only[Act.put,zlA,zlB,zlC]
    refine' zb (i:=6) ?i7 (by kernel_rfl) (by kernel_rfl) (by kernel_rfl) (by kernel_rfl) ?q7 ?y7 hS ?r7
    case i7=>simp only[zlD,zlF,zlE];rfl
    case q7=>exact fun _ _ _ h=>h
    case y7=>
      refine Or.inl ⟨by rfl,?_⟩
      intro wq hq
      try dsimp only at hq
      try obtain⟨hq0,hq1⟩:=hq
      go_simp
      try with_reducible rfl
    try simp only[Act.put,zlA,zlB,zlC]
    refine' zb (i:=7) ?i8 (by kernel_rfl) (by kernel_rfl) (by kernel_rfl) (by kernel_rfl) ?q8 ?y8 hS ?r8
    case i8=>simp only[zlD,zlF,zlE];rfl
    case q8=>exact fun _ _ _ h=>h
    case y8=>
      refine Or.inl ⟨by rfl,?_⟩
      intro wq hq
      try dsimp only at hq
      try obtain⟨hq0,hq1⟩:=hq
      go_simp
      try with_reducible rfl
    try simp only[Act.put,zlA,zlB,zlC]
    refine' zb (i:=8) ?i9 (by kernel_rfl) (by kernel_rfl) (by kernel_rfl) (by kernel_rfl) ?q9 ?y9 hS ?r9
    case i9=>simp only[zlD,zlF,zlE];rfl
    case q9=>exact fun _ _ _ h=>h
    case y9=>
      refine Or.inl ⟨by rfl,?_⟩
      intro wq hq
      try dsimp only at hq
      try obtain⟨hq0,hq1⟩:=hq
      go_simp
      try with_reducible rfl
    try simp only[Act.put,zlA,zlB,zlC]
    refine za (rs:=[9]) (by kernel_rfl) (by simp) ?_
    refine' ReadyL.cons ?o10 (fun K hK=>?s10) ReadyL.nil
    case o10=>simp only[zlD,zlF,zlE];rfl
    go_simp
    refine(HMG.out _ (HB0.out.trans (Below.drew (Below.refl _ _)))).mono ?_
    rintro e w1 ⟨A1,c1',ms,rfl,ho1,hm1,⟨hq1,_⟩,hb1⟩
    have hb01:Below w.heap.size w w1:=HB0.out.trans (((Below.drew (Below.refl w0.heap.size w0)).trans hb1).mono HB0.out.size)
    have H1:=Lib.hid (H.out.below hb01)
    have HM1:=Lib.hid hm1
    have HQ1:=Lib.hid hq1
    have HO1:=Lib.hid ho1
    have HB1:=Lib.hid hb01
    have HZ1:Hid (w0.heap.size<=w1.heap.size):=hb1.size
    have hm2:ms.length<=1048576:=by
      have h1:(chL ms).length=ms.length:=zv ms
      have h2:=zau (zp (chL ls))
      have h3:=zbY (chL ls)
      rw[hq1]at h1
      have:=HQL.out
      omega
    have hA1:A1=none->c1'=0:=by
      obtain⟨_,_,ev,hA,_⟩:=zh ho1
      injection ev with e1 e2 e3
      subst e1 e3
      exact hA
    refine hK.out _ _ (.inr (HKF.out w1 hb01)) ?_
    obtain⟨c3',c1''⟩:=HKF.out w1 hb01
    clear hK K hb1 hb01 hS c3 c1 ho1 hm1 hq1
    have hS:w1.cell? ⟨bo,fs.length * 6+3,none⟩=some (.slice t.K t.kn t.kc)/\w1.cell? ⟨g,1,none⟩=some (.slice Al ls.length cl):=⟨c3',c1''⟩
    clear c3' c1''
    try simp only[Act.put,zlA,zlB,zlC]
    refine za (rs:=[10]) (by kernel_rfl) (by simp) ?_
    refine' ReadyL.cons ?o11 (fun K hK=>?s11) ReadyL.nil
    case o11=>simp only[zlD,zlF,zlE];rfl
    refine zA _ (by rfl) (.tmp 9) (.tmp 14) 27 (by rfl) base 48 i0 _ 6 128 Tryz.underlying27 hi hz0 hz1 hz2 rfl (by omega) (.slice t.K t.kn t.kc) t.kn _ (by rfl) (H1.out.kid t (by simp)) _ A1 ms.length c1' (ze ms) (by rfl) hA1 (zac ms) (Lies.own HO1.out) (zcS ms) (by simp only[maxLen];omega) (by omega) H1.out.bw ?_
    intro v2 w2 hown2 hgr2 hbl2
    obtain⟨K',kc',rfl,_,_,_⟩:=zh hown2
    rw[zm]at hgr2
    rw[zm,zm]at hbl2
    have hlive:AllS (fun b=>¬ Live base g bm Ao Al (fs++ [t]) b) w1 ms:=HM1.out.mono fun b hb _ hlv=>by
      have hb':w.heap.size<=b:=Nat.le_trans HB0.out.size hb
      rcases hlv with e | e | e | e | ⟨x,hx,e⟩ | e
      . omega
      . have:=H.out.map.lt;omega
      . have:=(H.out.opn.lt b (by rw[zm];exact e)).2;omega
      . have:=(H.out.loo.lt b (by rw[zm];exact e)).2;omega
      . have:=((H.out.kid x hx).lt b (by rw[zm];exact e)).2;omega
      . have:=H.out.bw;omega
    have HM2:=Lib.hid (H1.out.settle hlive hgr2 hbl2 hown2 HAO.out)
    have hbo1:bo < w1.heap.size:=Nat.lt_of_lt_of_le hbo HB1.out.size
    have hne:some bo≠blkA t.K:=fun e=>(H1.out.ap1 bo (by rw[HAO.out];rfl)).2 t (by simp) e.symm
    have hbk:w2.heap[bo]?=w1.heap[bo]?:=hgr2.block bo hbo1 hne
    have hbb:base<=bo:=(H1.out.opn.lt bo (by rw[zm,HAO.out];rfl)).1
    have HB2:Hid (Below base w (w2.setCell ⟨bo,fs.length * 6+3,none⟩ (.slice K' (t.kn+ms.length) kc'))):=by
      have h1:Below base w w1:=HB1.out.mono H.out.bw
      have h2:Below base w1 w2:=(Below.refl base w1).grown hgr2 H1.out.bw (fun k hk=>((H1.out.kid t (by simp)).lt k (by rw[zm];exact hk)).1)
      exact(h1.trans h2).setCell hbb _
    have HST2:Hid (zo3 base g bm Ao Al (fs++ [t]) w (w2.setCell ⟨bo,fs.length * 6+3,none⟩ (.slice K' (t.kn+ms.length) kc'))):=fun b hb hlv=>by
      have hbo':b≠bo:=fun e=>hlv (.inr (.inr (.inl (by rw[HAO.out,e];rfl))))
      refine(Below.heap_setCell w2 _ _ b hbo').trans ((hgr2.block b (Nat.lt_of_lt_of_le hb HB1.out.size) fun e=>hlv (.inr (.inr (.inr (.inr (.inl ⟨t,by simp,e.symm⟩)))))).trans (HB1.out.block b hb))
    have k3:w2.cell? ⟨bo,fs.length * 6+3,none⟩=some (.slice t.K t.kn t.kc):=(World.cell?_of_block hbk).trans hS.1
    have kf3:w2.frozen? ⟨bo,fs.length * 6+3,none⟩=false:=by
      obtain⟨bo',e',_,_,_,_,_,_,_,hfz⟩:=H1.out.cellsL
      rw[HAO.out]at e'
      injection e' with e'
      injection e' with e'
      subst e'
      exact(World.frozen?_of_block hbk).trans (hfz _)
    have k1:w2.cell? ⟨g,1,none⟩=some (.slice Al ls.length cl):=by
      have hg1:w2.heap[g]?=w1.heap[g]?:=hgr2.block g H1.out.box.lt fun e=>(H1.out.notg (H1.out.kid t (by simp)) e.symm).1 rfl
      exact(World.cell?_of_block hg1).trans hS.2
    refine hK.out _ _ (.inr ⟨k3,k1⟩) ?_
    clear hK K hown2 hgr2 hbl2 hlive hbk hS
    try simp only[Act.put,zlA,zlB,zlC]
    refine za (rs:=[11]) (by kernel_rfl) (by simp) ?_
    refine' ReadyL.cons ?o12 (fun K hK=>?s12) ReadyL.nil
    case o12=>simp only[zlD,zlF,zlE];rfl
    go_simp
    refine hK.out _ _ (.inl (by decide)) ?_
    clear hK K
    try simp only[Act.put,zlA,zlB,zlC]
    refine za (rs:=[12]) (by kernel_rfl) (by simp) ?_
    refine' ReadyL.cons ?o13 (fun K hK=>?s13) ReadyL.nil
    case o13=>simp only[zlD,zlF,zlE];rfl
    go_simp
    refine hK.out _ _ (.inl (by decide)) ?_
    clear hK K
    try simp only[Act.put,zlA,zlB,zlC]
    refine za (rs:=[13]) (by kernel_rfl) (by simp) ?_
    refine' ReadyL.cons ?o14 (fun K hK=>?s14) ReadyL.nil
    case o14=>simp only[zlD,zlF,zlE];rfl
    go_simp
    refine hK.out _ _ (.inl (by decide)) ?_
    clear hK K
    try simp only[Act.put,zlA,zlB,zlC]
    refine zg (by kernel_rfl) ?_ _
    go_wp2_with fail
    go_meet
    exact⟨K',kc',ms,HM2.out,HQ1.out,HB2.out,HST2.out⟩
  case rest=>
    obtain⟨K',kc',ms,hM,hqm,hbw,hstl⟩:=hcut
    have HSTL:=Lib.hid hstl
    have c1:=hM.at1
    have cf1:=hM.box.free 1
    have HMM:=Lib.hid hM
    have HQM:=Lib.hid hqm
    have HBW:=Lib.hid hbw
    have hgb:base<=g:=hM.gb.1
    clear hM hqm hbw hstl HMG HKF HLA
    go_wp2_with fail
    go_end0
    exact⟨rfl,K',kc',ms,HMM.out.noLoose,HQM.out,HBW.out.setCell (p:=⟨g,1,none⟩) hgb _,fun b hb hlv=>(Below.heap_setCell wc _ _ b (fun e=>hlv (.inl e))).trans (HSTL.out b hb hlv)⟩
theorem zew{H:Type}{P:Program}(w:World){ops:Array Oper}{o:Oper}{a:Act}{K:Act->World->Prop}{Q:Exit->Act->World->Prop}{E:Prop}(hg:o.guard=none)(m x:Operand)(t:TypeId)(hop:o.op=Op.lookup t m x false)
    (k e:TypeId) (q:IntKind) (KK:Go.Maps.Keyed P k) (ht:P.underlying t=some (.map k e)) (he:P.underlying e=some (.int q)) (hz:(zeroValue e).run P w=.ok (.int q 0) w) (b n:Nat) (D:DataW H)
    (hm:a.eval m=.map (some b)) (hown:w.ownsMap P k (plainElem P e) b n D) (key:Value) (kl:Lit) (hx:a.eval x=key) (hkey:keyOf P k key=some kl)
    (hK:∀ c:Int,D.atKey kl (.lit (.int q 0))=.lit (.int q c)->(Lit.int q c).wf=true->K (a.put o.dst (.int q c)) w) :
    if Region.wanted o (yielded ops a.tmps)=true then Oper.wp P o a w K Q else E:=by
  have hw:Region.wanted o (yielded ops a.tmps)=true:=by simp [Region.wanted,hg]
  rw[if_pos hw]
  obtain⟨c,hrun,hat,hwc⟩:=hown.lookup_int KK ht he hz hkey
  unfold Oper.wp
  simp [execOp,hop,hm,hx,hrun,Result.andThen]
  exact hK c hat hwc
theorem zeO{H:Type}{P:Program}(w:World){ops:Array Oper}{o:Oper}{a:Act}{K:Act->World->Prop}{Q:Exit->Act->World->Prop}{E:Prop}(hg:o.guard=none)(m x v:Operand)(t:TypeId)(hop:o.op=Op.mapUpdate t m x v)
    (k e:TypeId) (KK:Go.Maps.Keyed P k) (ht:P.underlying t=some (.map k e)) (R:Value->Option (DataW H × List MemPlace)) (b n:Nat) (D:DataW H)
    (hm:a.eval m=.map (some b)) (hown:w.ownsMap P k R b n D) (hn:n < maxLen) (key val:Value) (kl:Lit) (hx:a.eval x=key) (hv:a.eval v=val) (hkey:keyOf P k key=some kl)
    (d:DataW H) (ps:List MemPlace) (hval:R val=some (d,ps))
    (hK:∀ w',w'.ownsMap P k R b (n+1) (D.put kl d)->w.grownBy w' (some b)->K (a.put o.dst undef) w') :
    if Region.wanted o (yielded ops a.tmps)=true then Oper.wp P o a w K Q else E:=by
  have hw:Region.wanted o (yielded ops a.tmps)=true:=by simp [Region.wanted,hg]
  rw[if_pos hw]
  obtain⟨w',hrun,r1,r2⟩:=hown.update KK ht hn hkey hval
  unfold Oper.wp
  simp [execOp,hop,hm,hx,hv,hrun,Result.andThen]
  exact hK w' r1 r2
theorem zjY{S:Nat->Prop}{base g bm co cl mn:Nat}{Ao Al:Option Addr}{fs ls:List TT}{a t:TT}{f:List UInt8->Int}(w:World)(h:BldM S w base g bm Ao co (fs++ [a]++ [t]) Al cl ls mn f)(hq:t.kn+bkL (chL ls)<=1048576)(ha:a.kn<=1048575)(hf:fs.length<=1048575)(hmn:mn<=4294967296)(hfn:-4294967296<=f t.tag.bs/\f t.tag.bs<=4294967296) :
    Calls Tryz.prog 31 #[.pointer (some ⟨g,0,none⟩)] w fun e w'=>e=.returned (.tuple #[])/\∃ (K':Option Addr) (kc':Nat) (t':TT),BldM S w' base g bm Ao co (fs++ [a.withK K' (a.kn+1) kc' (a.kids++ [t'])]) Al cl [] (mn+1) (upd f t.tag.bs (f t.tag.bs - 1))/\t'.ch=zam t.ch (chL ls)/\Below base w w':=by
  obtain⟨i0,hi,hz0,hz1,hz2⟩:=info_parts zbL
  have HSET:=Lib.hid (zdo w h (by omega) (by omega) (by rw[List.length_append];show fs.length+1<=_;omega))
  have htx:=(h.head t (by simp)).blank
  have HTX:=Lib.hid htx
  have hgb:base<=g/\base<=bm:=h.gb
  clear h htx
  go_enter Tryz.func31,Tryz.ntmps31
  go_wp2_with fail
  refine HSET.out.mono ?_
  rintro e w1 ⟨rfl,K1,kc1,ms,hM1,hqm,hb1,_⟩
  have hms:t.kn+ms.length<=1048576:=by
    have h1:(chL ms).length=ms.length:=zv ms
    have h2:=zau (zp (chL ls))
    have h3:=zbY (chL ls)
    rw[hqm]at h1
    omega
  have HT1:Hid ((t.withK K1 (t.kn+ms.length) kc1 (t.kids++ ms)).ch=zam t.ch (chL ls)):=by
    show TT.ch _=_
    rw[TT.ch_eq]
    show PT.mk t.tag.ch (t.atts.map AT.ch) (chL (t.kids++ ms)) t.text.ch=PT.mk t.ch.tag t.ch.attrs (t.ch.kids++ zp (chL ls)) []
    rw[TT.ch_tag,TT.ch_attrs,TT.ch_kids,zn,hqm,HTX.out]
  have htag:(t.withK K1 (t.kn+ms.length) kc1 (t.kids++ ms)).tag=t.tag:=rfl
  have hkn1:(t.withK K1 (t.kn+ms.length) kc1 (t.kids++ ms)).kn<=1048576:=hms
  generalize t.withK K1 (t.kn+ms.length) kc1 (t.kids++ ms)=t1 at *
  have H1:=Lib.hid hM1
  have HB1:=Lib.hid hb1
  have HTAG:=Lib.hid htag
  obtain⟨bo,hao,hbo,k0,k1,k2,k3,k4,k5,kf⟩:=hM1.cellsL
  have hnl:(fs++ [a]++ [t1]).length=(fs++ [a]).length+1:=by rw[List.length_append];rfl
  have hnl2:(fs++ [a]).length=fs.length+1:=by rw[List.length_append];rfl
  have HLA:=Lib.hid (zb3 g bo (fs++ [a]).length (fs++ [a]++ [t1]).length co w1 hnl (by rw[<-hao];exact hM1.at0) (by omega))
  rw[hnl2]at k0 k1 k2 k3 k4 k5 HLA
  clear hM1 hb1 hqm hms HSET htag
  go_wp2_with fail
  refine HLA.out.mono ?_
  rintro e w2 ⟨rfl,n2,hw2⟩
  have hb12:Below w1.heap.size w1 w2:=by rw[hw2];exact(Below.refl _ _).drewN n2
  clear hw2 HLA
  have k0':=(hb12.cell (p:=⟨bo,(fs.length+1) * 6,none⟩) hbo).trans k0
  have k1':=(hb12.cell (p:=⟨bo,(fs.length+1) * 6+1,none⟩) hbo).trans k1
  have k2':=(hb12.cell (p:=⟨bo,(fs.length+1) * 6+2,none⟩) hbo).trans k2
  have k3':=(hb12.cell (p:=⟨bo,(fs.length+1) * 6+3,none⟩) hbo).trans k3
  have k4':=(hb12.cell (p:=⟨bo,(fs.length+1) * 6+4,none⟩) hbo).trans k4
  have k5':=(hb12.cell (p:=⟨bo,(fs.length+1) * 6+5,none⟩) hbo).trans k5
  clear k0 k1 k2 k3 k4 k5
  go_upto_region 2 with fail
  generalize hw3:w2.alloc (.cells #[.string t1.tag.s,.slice t1.tag.A t1.tag.n t1.tag.c,.slice t1.A t1.n t1.c,.slice t1.K t1.kn t1.kc,.string t1.text.s,.slice t1.text.A t1.text.n t1.text.c] 48)=w3
  have y3:Hid (Whole w3 w2.heap.size 48 #[.string t1.tag.s,.slice t1.tag.A t1.tag.n t1.tag.c,.slice t1.A t1.n t1.c,.slice t1.K t1.kn t1.kc,.string t1.text.s,.slice t1.text.A t1.text.n t1.text.c]):=by rw[<-hw3];exact Whole.made _ _ _
  have hb23:Below w2.heap.size w2 w3:=by rw[<-hw3];exact(Below.refl _ _).alloc (Nat.le_refl _) _
  have hz12:=hb12.size
  have H3:=Lib.hid (H1.out.below (hb12.trans (hb23.mono hz12)))
  have HB3:Hid (Below base w w3):=HB1.out.trans ((hb12.trans (hb23.mono hz12)).mono H1.out.bw)
  have heb:w1.heap.size<=w2.heap.size:=hz12
  generalize hebb:w2.heap.size=eb at *
  clear hw3 hb23 hb12 k0' k1' k2' k3' k4' k5' kf hebb hz12
  obtain⟨x,hx⟩:∃ x,f t.tag.bs=x:=⟨_,rfl⟩
  have HX:=Lib.hid hx
  rw[hx]at hfn
  have hbs:t1.tag.s.data.toList=t.tag.bs:=by rw[HTAG.out];rfl
  have hkey:keyOf Tryz.prog 9 (.string t1.tag.s)=some (.string t.tag.bs):=by
    rw[<-hbs]
    have:=((H1.out.head t1 (by simp)).tag.ok).2.2.2
    exact WideMaps.keyOf_string_mk Tryz.underlying9 (by simp only[maxLen];omega)
  have hw1:IntKind.i64.wrap (x - 1)=x - 1:=IntWalk.i64_in _ (by omega)
  clear hx hbs
  go_cut [] (fun wx=>BldM S wx base g bm Ao co (fs++ [a]++ [t1]) Al cl [] (mn+1) (upd f t.tag.bs (x - 1))/\Below base w wx/\Whole wx eb 48 #[.string t1.tag.s,.slice t1.tag.A t1.tag.n t1.tag.c,.slice t1.A t1.n t1.c,.slice t1.K t1.kn t1.kc,.string t1.text.s,.slice t1.text.A t1.text.n t1.text.c])
  case first=>
    have hS:w3.drew.cell? ⟨g,2,none⟩=some (.map (some bm))/\w3.drew.cell? ⟨eb,0,none⟩=some (.string t1.tag.s):=⟨H3.out.at2,y3.out.at_ 0⟩
    refine z8 (S:=(fun V=>V.cell? ⟨g,2,none⟩=some (.map (some bm))/\V.cell? ⟨eb,0,none⟩=some (.string t1.tag.s))) (Z:=(fun i=>decide (9<=i))) (by kernel_rfl) ?_
    refine' zb (i:=0) ?i1 (by kernel_rfl) (by kernel_rfl) (by kernel_rfl) (by kernel_rfl) ?q1 ?y1 hS ?r1
    case i1=>simp only[zlD,zlE];rfl
    case q1=>exact fun _ _ _ h=>h
    case y1=>
      refine Or.inl ⟨by rfl,?_⟩
      intro wq hq
      try dsimp only at hq
      try obtain⟨hq0,hq1⟩:=hq
      go_simp
      try with_reducible rfl
    try simp only[Act.put,zlA,zlB,zlC]
    refine' zb (i:=1) ?i2 (by kernel_rfl) (by kernel_rfl) (by kernel_rfl) (by kernel_rfl) ?q2 ?y2 hS ?r2
    case i2=>simp only[zlD,zlF,zlE];rfl
    case q2=>exact fun _ _ _ h=>h
    case y2=>
      refine Or.inl ⟨by rfl,?_⟩
      intro wq hq
      try dsimp only at hq
      try obtain⟨hq0,hq1⟩:=hq
      go_simp
      try with_reducible rfl
    try simp only[Act.put,zlA,zlB,zlC]
    refine' zb (i:=2) ?i3 (by kernel_rfl) (by kernel_rfl) (by kernel_rfl) (by kernel_rfl) ?q3 ?y3 hS ?r3
    case i3=>simp only[zlD,zlF,zlE];rfl
    case q3=>exact fun _ _ _ h=>h
    case y3=>
      refine Or.inl ⟨by rfl,?_⟩
      intro wq hq
      try dsimp only at hq
      try obtain⟨hq0,hq1⟩:=hq
      go_simp
      try with_reducible rfl
    try simp only[Act.put,zlA,zlB,zlC]
    refine' zb (i:=3) ?i4 (by kernel_rfl) (by kernel_rfl) (by kernel_rfl) (by kernel_rfl) ?q4 ?y4 hS ?r4
    case i4=>simp only[zlD,zlF,zlE];rfl
    case q4=>exact fun _ _ _ h=>h
    case y4=>
      refine Or.inl ⟨by rfl,?_⟩
      intro wq hq
      try dsimp only at hq
      try obtain⟨hq0,hq1⟩:=hq
      go_simp
      try with_reducible rfl
    try simp only[Act.put,zlA,zlB,zlC]
    refine' zb (i:=4) ?i5 (by kernel_rfl) (by kernel_rfl) (by kernel_rfl) (by kernel_rfl) ?q5 ?y5 hS ?r5
    case i5=>simp only[zlD,zlF,zlE];rfl
    case q5=>exact fun _ _ _ h=>h
    case y5=>
      refine Or.inl ⟨by rfl,?_⟩
      intro wq hq
      try dsimp only at hq
      try obtain⟨hq0,hq1⟩:=hq
      go_simp
      try with_reducible rfl
    try simp only[Act.put,zlA,zlB,zlC]
    refine' zb (i:=5) ?i6 (by kernel_rfl) (by kernel_rfl) (by kernel_rfl) (by kernel_rfl) ?q6 ?y6 hS ?r6
    case i6=>simp only[zlD,zlF,zlE];rfl
    case q6=>exact fun _ _ _ h=>h
    case y6=>
      refine Or.inl ⟨by rfl,?_⟩
      intro wq hq
      try dsimp only at hq
      try obtain⟨hq0,hq1⟩:=hq
      go_simp
      try with_reducible rfl
    try simp only[Act.put,zlA,zlB,zlC]
    refine' zb (i:=6) ?i7 (by kernel_rfl) (by kernel_rfl) (by kernel_rfl) (by kernel_rfl) ?q7 ?y7 hS ?r7
    case i7=>simp only[zlD,zlF,zlE];rfl
    case q7=>exact fun _ _ _ h=>h
    case y7=>
      refine Or.inl ⟨by rfl,?_⟩
      intro wq hq
      try dsimp only at hq
      try obtain⟨hq0,hq1⟩:=hq
      go_simp
      try with_reducible rfl
    try simp only[Act.put,zlA,zlB,zlC]
    refine za (rs:=[7]) (by kernel_rfl) (by simp) ?_
    refine' ReadyL.cons ?o8 (fun K hK=>?s8) ReadyL.nil
    case o8=>simp only[zlD,zlF,zlE];rfl
    obtain⟨D,hown,hD⟩:=(H3.out.below (Below.drew (Below.refl _ _))).map
    refine zew _ (by rfl) (.tmp 13) (.tmp 16) 56 (by rfl) 9 3 .i64 zcV Tryz.underlying56 Tryz.underlying3 (zjs _) bm mn D (by rfl) hown _ _ (by rfl) hkey ?_
    intro c hat hwc
    have hce:=(hD t.tag.bs).symm.trans hat
    injection hce with hce
    injection hce with _ hce
    rw[HX.out]at hce
    subst hce
    refine hK.out _ _ (.inr hS) ?_
    clear hK K hat hwc
    try simp only[Act.put,zlA,zlB,zlC]
    refine' zb (i:=8) ?i9 (by kernel_rfl) (by kernel_rfl) (by kernel_rfl) (by kernel_rfl) ?q9 ?y9 hS ?r9
    case i9=>simp only[zlD,zlF,zlE];rfl
    case q9=>exact fun _ _ _ h=>h
    case y9=>
      refine Or.inl ⟨by rfl,?_⟩
      intro wq hq
      try dsimp only at hq
      try obtain⟨hq0,hq1⟩:=hq
      go_simp
      try with_reducible rfl
    try simp only[Act.put,zlA,zlB,zlC]
    refine za (rs:=[9]) (by kernel_rfl) (by simp) ?_
    refine' ReadyL.cons ?o10 (fun K hK=>?s10) ReadyL.nil
    case o10=>simp only[zlD,zlF,zlE];rfl
    refine zeO _ (by rfl) _ _ _ 56 (by rfl) 9 3 zcV Tryz.underlying56 _ bm mn D (by rfl) hown (by simp only[maxLen];omega) _ _ _ (by rfl) (by rfl) hkey _ [] (plainElem_int Tryz.underlying3 (WalkArith.wf_i64 (by omega))) ?_
    intro w4 hown4 hgr4
    have hM4:=MapF.put hown hD hown4
    have H4:=Lib.hid ((H3.out.below (Below.drew (Below.refl _ _))).count hgr4 hM4)
    have hgb2:=hgb.2
    have HB4:Hid (Below base w w4):=(HB3.out.trans (Below.drew (Below.refl base w3))).trans ((Below.refl base w3.drew).grown hgr4 H3.out.bw (fun k hk=>by injection hk with hk;omega))
    have hmlt:=H3.out.map.lt
    have y4:Whole w4 eb 48 #[.string t1.tag.s,.slice t1.tag.A t1.tag.n t1.tag.c,.slice t1.A t1.n t1.c,.slice t1.K t1.kn t1.kc,.string t1.text.s,.slice t1.text.A t1.text.n t1.text.c]:=y3.out.drew.grown hgr4 (fun e=>by
      injection e with e
      have:=H1.out.map.lt
      omega)
    refine hK.out _ _ (.inl (by decide)) ?_
    clear hK K hown hown4 hgr4 hM4
    try simp only[Act.put]
    refine zg (by kernel_rfl) ?_ _
    go_wp2_with fail
    go_meet
    exact⟨H4.out,HB4.out,y4⟩
  case rest=>
    obtain⟨hM4,hb4,y4⟩:=hcut
    have H4:=Lib.hid hM4
    have HB4:=Lib.hid hb4
    have Y4:=Lib.hid y4
    have hc0:=hM4.at0
    have hcf:=hM4.box.free 0
    obtain⟨_,_,ev,_,_,hNc⟩:=zh hM4.opn
    injection ev with _ _ e3
    subst e3
    rw[hao]at hc0
    obtain⟨m,hm⟩:∃ m,(fs++ [a]).length=m:=⟨_,rfl⟩
    obtain⟨N,hN⟩:∃ N,(fs++ [a]++ [t1]).length=N:=⟨_,rfl⟩
    rw[hN]at hc0 hNc hnl
    rw[hm]at hnl hnl2
    have hwN:IntKind.i64.wrap ((N:Int) - 1)=(m:Int):=by rw[show(N:Int) - 1=(m:Int) by omega];exact IntWalk.i64_in _ (by omega)
    have hwm:IntKind.i64.wrap (m:Int)=(m:Int):=IntWalk.i64_in _ (by omega)
    have hpN:(N:Int) - 1=(m:Int):=by omega
    have hm0:(0:Int)<=(m:Int):=Int.natCast_nonneg _
    have hmc:(m:Int)<=(co:Int):=by omega
    have HM:=Lib.hid hm
    have HAO:=Lib.hid hao
    have HN2:=Lib.hid hnl2
    have hmfs:m<=1048576:=by omega
    clear hM4 hb4 y4 y3 H3 HB3 hkey hfn hw1 hm hN hnl hao hnl2 hNc
    go_upto_region 3 with fail
    go_cut [] (fun wx=>BldM S wx base g bm Ao co (fs++ [a]) Al cl [] (mn+1) (upd f t.tag.bs (x - 1))/\AllS (fun b=>¬ Live base g bm Ao Al (fs++ [a]) b) wx [t1]/\Below base w wx/\Whole wx eb 48 #[.string t1.tag.s,.slice t1.tag.A t1.tag.n t1.tag.c,.slice t1.A t1.n t1.c,.slice t1.K t1.kn t1.kc,.string t1.text.s,.slice t1.text.A t1.text.n t1.text.c])
    case first=>
      obtain⟨hP1,hP2⟩:=(H4.out.below (Below.drew (Below.refl _ _))).pop hkn1
      rw[HM.out,HAO.out]at hP1 hP2
      have HP1:=Lib.hid hP1
      have HP2:=Lib.hid hP2
      have hS:wc.drew.cell? ⟨g,0,none⟩=some (.slice (some ⟨bo,0,none⟩) N co):=hc0
      clear hP1 hP2
      refine z8 (S:=(fun V=>V.cell? ⟨g,0,none⟩=some (.slice (some ⟨bo,0,none⟩) N co))) (Z:=(fun i=>decide (12<=i))) (by kernel_rfl) ?_
      refine' zb (i:=0) ?i11 (by kernel_rfl) (by kernel_rfl) (by kernel_rfl) (by kernel_rfl) ?q11 ?y11 hS ?r11
      case i11=>simp only[zlD,zlE];rfl
      case q11=>exact fun _ _ _ h=>h
      case y11=>
        refine Or.inl ⟨by rfl,?_⟩
        intro wq hq
        try dsimp only at hq
        go_simp
        try with_reducible rfl
      try simp only[Act.put,zlA,zlB,zlC]
      refine' zb (i:=1) ?i12 (by kernel_rfl) (by kernel_rfl) (by kernel_rfl) (by kernel_rfl) ?q12 ?y12 hS ?r12
      case i12=>simp only[zlD,zlF,zlE];rfl
      case q12=>exact fun _ _ _ h=>h
      case y12=>
        refine Or.inl ⟨by rfl,?_⟩
        intro wq hq
        try dsimp only at hq
        go_simp
        try with_reducible rfl
      try simp only[Act.put,zlA,zlB,zlC]
      refine' zb (i:=2) ?i13 (by kernel_rfl) (by kernel_rfl) (by kernel_rfl) (by kernel_rfl) ?q13 ?y13 hS ?r13
      case i13=>simp only[zlD,zlF,zlE];rfl
      case q13=>exact fun _ _ _ h=>h
      case y13=>
        refine Or.inl ⟨by rfl,?_⟩
        intro wq hq
        try dsimp only at hq
        go_simp
        try with_reducible rfl
      try simp only[Act.put,zlA,zlB,zlC]
      refine' zb (i:=3) ?i14 (by kernel_rfl) (by kernel_rfl) (by kernel_rfl) (by kernel_rfl) ?q14 ?y14 hS ?r14
      case i14=>simp only[zlD,zlF,zlE];rfl
      case q14=>exact fun _ _ _ h=>h
      case y14=>
        refine Or.inl ⟨by rfl,?_⟩
        intro wq hq
        try dsimp only at hq
        go_simp
        try with_reducible rfl
      try simp only[Act.put,zlA,zlB,zlC]
      refine' zb (i:=4) ?i15 (by kernel_rfl) (by kernel_rfl) (by kernel_rfl) (by kernel_rfl) ?q15 ?y15 hS ?r15
      case i15=>simp only[zlD,zlF,zlE];rfl
      case q15=>exact fun _ _ _ h=>h
      case y15=>
        refine Or.inl ⟨by rfl,?_⟩
        intro wq hq
        try dsimp only at hq
        go_simp
        try with_reducible rfl
      try simp only[Act.put,zlA,zlB,zlC]
      refine' zb (i:=5) ?i16 (by kernel_rfl) (by kernel_rfl) (by kernel_rfl) (by kernel_rfl) ?q16 ?y16 hS ?r16
      case i16=>simp only[zlD,zlF,zlE];rfl
      case q16=>exact fun _ _ _ h=>h
      case y16=>
        refine Or.inl ⟨by rfl,?_⟩
        intro wq hq
        try dsimp only at hq
        go_simp
        try with_reducible rfl
      try simp only[Act.put,zlA,zlB,zlC]
      refine' zb (i:=6) ?i17 (by kernel_rfl) (by kernel_rfl) (by kernel_rfl) (by kernel_rfl) ?q17 ?y17 hS ?r17
      case i17=>simp only[zlD,zlF,zlE];rfl
      case q17=>exact fun _ _ _ h=>h
      case y17=>
        refine Or.inl ⟨by rfl,?_⟩
        intro wq hq
        try dsimp only at hq
        go_simp
        try with_reducible rfl
      try simp only[Act.put,zlA,zlB,zlC]
      refine' zb (i:=7) ?i18 (by kernel_rfl) (by kernel_rfl) (by kernel_rfl) (by kernel_rfl) ?q18 ?y18 hS ?r18
      case i18=>simp only[zlD,zlF,zlE];rfl
      case q18=>exact fun _ _ _ h=>h
      case y18=>
        refine Or.inl ⟨by rfl,?_⟩
        intro wq hq
        try dsimp only at hq
        go_simp
        try with_reducible rfl
      try simp only[Act.put,zlA,zlB,zlC]
      refine' zb (i:=8) ?i19 (by kernel_rfl) (by kernel_rfl) (by kernel_rfl) (by kernel_rfl) ?q19 ?y19 hS ?r19
      case i19=>simp only[zlD,zlF,zlE];rfl
      case q19=>exact fun _ _ _ h=>h
      case y19=>
        refine Or.inl ⟨by rfl,?_⟩
        intro wq hq
        try dsimp only at hq
        go_simp
        try with_reducible rfl
      try simp only[Act.put,zlA,zlB,zlC]
      refine' zb (i:=9) ?i20 (by kernel_rfl) (by kernel_rfl) (by kernel_rfl) (by kernel_rfl) ?q20 ?y20 hS ?r20
      case i20=>simp only[zlD,zlF,zlE];rfl
      case q20=>exact fun _ _ _ h=>h
      case y20=>
        refine Or.inl ⟨by rfl,?_⟩
        intro wq hq
        try dsimp only at hq
        go_simp
        try with_reducible rfl
      try simp only[Act.put,zlA,zlB,zlC]
      refine' zb (i:=10) ?i21 (by kernel_rfl) (by kernel_rfl) (by kernel_rfl) (by kernel_rfl) ?q21 ?y21 hS ?r21
      case i21=>simp only[zlD,zlF,zlE];rfl
      case q21=>exact fun _ _ _ h=>h
      case y21=>
        refine Or.inl ⟨by rfl,?_⟩
        intro wq hq
        try dsimp only at hq
        go_simp
        try with_reducible rfl
      try simp only[Act.put,zlA,zlB,zlC]
      refine za (rs:=[11]) (by kernel_rfl) (by simp) ?_
      refine' ReadyL.cons ?o22 (fun K hK=>?s22) ReadyL.nil
      case o22=>simp only[zlD,zlF,zlE];rfl
      go_simp
      refine hK.out _ _ (.inr hS) ?_
      clear hK K
      try simp only[Act.put,zlA,zlB,zlC]
      refine za (rs:=[12]) (by kernel_rfl) (by simp) ?_
      refine' ReadyL.cons ?o23 (fun K hK=>?s23) ReadyL.nil
      case o23=>simp only[zlD,zlF,zlE];rfl
      go_simp
      refine hK.out _ _ (.inl (by decide)) ?_
      clear hK K
      try simp only[Act.put,zlA,zlB,zlC]
      refine za (rs:=[13]) (by kernel_rfl) (by simp) ?_
      refine' ReadyL.cons ?o24 (fun K hK=>?s24) ReadyL.nil
      case o24=>simp only[zlD,zlF,zlE];rfl
      go_simp
      refine hK.out _ _ (.inl (by decide)) ?_
      clear hK K
      try simp only[Act.put,zlA,zlB,zlC]
      refine za (rs:=[14]) (by kernel_rfl) (by simp) ?_
      refine' ReadyL.cons ?o25 (fun K hK=>?s25) ReadyL.nil
      case o25=>simp only[zlD,zlF,zlE];rfl
      go_simp
      refine hK.out _ _ (.inl (by decide)) ?_
      clear hK K hS
      try simp only[Act.put]
      refine zg (by kernel_rfl) ?_ _
      go_wp2_with fail
      go_meet
      refine⟨by rw[HAO.out];exact HP1.out,by rw[HAO.out];exact HP2.out,(HB4.out.trans (Below.drew (Below.refl base wc))).setCell (p:=⟨g,0,none⟩) hgb.1 _,?_⟩
      refine Y4.out.drew.far _ (fun e=>?_) _
      have e:eb=g:=e
      have h1:=H4.out.box
      have h2:=Y4.out
      unfold Whole at h1 h2
      rw[e,h1]at h2
      injection h2 with h2
      injection h2 with _ h2 _
      exact absurd h2 (by decide)
    case rest=>
      obtain⟨hM5,hA5,hb5,y5⟩:=hcut
      have hc0:=hM5.at0
      rw[HM.out,HAO.out]at hc0
      have HLB:=Lib.hid (zb3 g bo fs.length m co wc HN2.out hc0 (by omega))
      have H5:=Lib.hid hM5
      have HA5:=Lib.hid hA5
      have HB5:=Lib.hid hb5
      have Y5:=Lib.hid y5
      clear hM5 hA5 hb5 y5 hc0 H4 HB4 Y4 hwN hwm hpN hm0 hmc hcf
      go_wp2_with fail
      refine HLB.out.mono ?_
      rintro e w6 ⟨rfl,n6,hw6⟩
      have hb6:Below wc.heap.size wc w6:=by rw[hw6];exact(Below.refl _ _).drewN n6
      have H6:=Lib.hid (H5.out.below hb6)
      have HA6:Hid (AllS (fun b=>¬ Live base g bm Ao Al (fs++ [a]) b) w6 [t1]):=HA5.out.keep (Stays.of hb6)
      have HB6:Hid (Below base w w6):=HB5.out.trans (hb6.mono H5.out.bw)
      have y6:=Y5.out.below hb6 Y5.out.lt
      obtain⟨bo',e',hbo6,_,_,_,k3,_,_,kf⟩:=H6.out.cellsL
      rw[HAO.out]at e'
      injection e' with e'
      injection e' with e'
      subst e'
      clear hw6 hb6 HLB H5 HA5 HB5 Y5
      go_upto_region 5 with fail
      have hka:a.kids.length=a.kn:=H6.out.kln (by simp)
      have hka0:(0:Int)<=(a.kn:Int):=Int.natCast_nonneg _
      have hka1:(a.kn:Int) < ((a.kn+1:Nat):Int):=by omega
      have hka2:(a.kn:Int) < (a.kn:Int)+1:=by omega
      have hS:w6.drew.cell? ⟨bo,fs.length * 6+3,none⟩=some (.slice a.K a.kn a.kc)/\Whole w6.drew eb 48 #[.string t1.tag.s,.slice t1.tag.A t1.tag.n t1.tag.c,.slice t1.A t1.n t1.c,.slice t1.K t1.kn t1.kc,.string t1.text.s,.slice t1.text.A t1.text.n t1.text.c]:=⟨k3,y6.drew⟩
      have HKA:=Lib.hid hka
      clear y6 hka
      refine z8 (S:=(fun V=>V.cell? ⟨bo,fs.length * 6+3,none⟩=some (.slice a.K a.kn a.kc)/\Whole V eb 48 #[.string t1.tag.s,.slice t1.tag.A t1.tag.n t1.tag.c,.slice t1.A t1.n t1.c,.slice t1.K t1.kn t1.kc,.string t1.text.s,.slice t1.text.A t1.text.n t1.text.c])) (Z:=(fun i=>decide (8<=i))) (by kernel_rfl) ?_
      refine' zb (i:=0) ?i26 (by kernel_rfl) (by kernel_rfl) (by kernel_rfl) (by kernel_rfl) ?q26 ?y26 hS ?r26
      case i26=>simp only[zlD,zlE];rfl
      case q26=>exact fun _ _ _ h=>h
      case y26=>
        refine Or.inl ⟨by rfl,?_⟩
        intro wq hq
        try dsimp only at hq
        try obtain⟨hq0,hq1⟩:=hq
        go_simp
        try with_reducible rfl
      try simp only[Act.put,zlA,zlB,zlC]
      refine' zb (i:=1) ?i27 (by kernel_rfl) (by kernel_rfl) (by kernel_rfl) (by kernel_rfl) ?q27 ?y27 hS ?r27
      case i27=>simp only[zlD,zlF,zlE];rfl
      case q27=>exact fun _ _ _ h=>h
      case y27=>
        refine Or.inl ⟨by rfl,?_⟩
        intro wq hq
        try dsimp only at hq
        try obtain⟨hq0,hq1⟩:=hq
        go_simp
        try with_reducible rfl
      try simp only[Act.put,zlA,zlB,zlC]
      refine' zb (i:=2) ?i28 (by kernel_rfl) (by kernel_rfl) (by kernel_rfl) (by kernel_rfl) ?q28 ?y28 hS ?r28
      case i28=>simp only[zlD,zlF,zlE];rfl
      case q28=>exact fun _ _ _ h=>h
      case y28=>
        refine Or.inl ⟨by rfl,?_⟩
        intro wq hq
        try dsimp only at hq
        try obtain⟨hq0,hq1⟩:=hq
        go_simp
        try with_reducible rfl
      try simp only[Act.put,zlA,zlB,zlC]
      refine' zb (i:=3) ?i29 (by kernel_rfl) (by kernel_rfl) (by kernel_rfl) (by kernel_rfl) ?q29 ?y29 hS ?r29
      case i29=>simp only[zlD,zlF,zlE];rfl
      case q29=>exact fun _ _ _ h=>h
      case y29=>
        refine Or.inl ⟨by rfl,?_⟩
        intro wq hq
        try dsimp only at hq
        try obtain⟨hq0,hq1⟩:=hq
        go_simp
        try with_reducible rfl
      try simp only[Act.put,zlA,zlB,zlC]
      refine' zb (i:=4) ?i30 (by kernel_rfl) (by kernel_rfl) (by kernel_rfl) (by kernel_rfl) ?q30 ?y30 hS ?r30
      case i30=>simp only[zlD,zlF,zlE];rfl
      case q30=>exact fun _ _ _ h=>h
      case y30=>
        refine Or.inl ⟨by rfl,?_⟩
        intro wq hq
        try dsimp only at hq
        try obtain⟨hq0,hq1⟩:=hq
        have hr0:=hq1.at_ 0
        have hr1:=hq1.at_ 1
        have hr2:=hq1.at_ 2
        have hr3:=hq1.at_ 3
        have hr4:=hq1.at_ 4
        have hr5:=hq1.at_ 5
        have hr6:=hq1.at_ 6
        go_simp
        try with_reducible rfl
      try simp only[Act.put,zlA,zlB,zlC]
      refine' zb (i:=5) ?i31 (by kernel_rfl) (by kernel_rfl) (by kernel_rfl) (by kernel_rfl) ?q31 ?y31 hS ?r31
      case i31=>simp only[zlD,zlF,zlE];rfl
      case q31=>exact fun _ _ _ h=>h
      case y31=>
        refine Or.inl ⟨by rfl,?_⟩
        intro wq hq
        try dsimp only at hq
        try obtain⟨hq0,hq1⟩:=hq
        go_simp
        try with_reducible rfl
      try simp only[Act.put,zlA,zlB,zlC]
      refine za (rs:=[6]) (by kernel_rfl) (by simp) ?_
      refine' ReadyL.cons ?o32 (fun K hK=>?s32) ReadyL.nil
      case o32=>simp only[zlD,zlF,zlE];rfl
      go_simp
      have hba:Below w6.heap.size w6 (w6.drew.alloc (.cells (zj zeroTT).toArray 48)):=(Below.drew (Below.refl w6.heap.size w6)).alloc (Nat.le_refl _) _
      have h6a:=H6.out.below hba
      have HA7:Hid (AllS (fun b=>¬ Live base g bm Ao Al (fs++ [a]) b) (w6.drew.alloc (.cells (zj zeroTT).toArray 48)) [t1]):=HA6.out.keep (Stays.of hba)
      have HBA:Hid (Below base w (w6.drew.alloc (.cells (zj zeroTT).toArray 48))):=HB6.out.trans (hba.mono H6.out.bw)
      have kfa:∀ j,(w6.drew.alloc (.cells (zj zeroTT).toArray 48)).frozen? ⟨bo,j,none⟩=false:=fun j=>(World.frozen?_of_block (hba.block bo hbo6)).trans (kf j)
      refine hK.out _ _ (.inr ⟨(hba.cell (p:=⟨bo,fs.length * 6+3,none⟩) hbo6).trans k3,hS.2.alloc _⟩) ?_
      have hS2:(w6.drew.alloc (.cells (zj zeroTT).toArray 48)).cell? ⟨bo,fs.length * 6+3,none⟩=some (.slice a.K a.kn a.kc)/\Whole (w6.drew.alloc (.cells (zj zeroTT).toArray 48)) eb 48 #[.string t1.tag.s,.slice t1.tag.A t1.tag.n t1.tag.c,.slice t1.A t1.n t1.c,.slice t1.K t1.kn t1.kc,.string t1.text.s,.slice t1.text.A t1.text.n t1.text.c]:=⟨(hba.cell (p:=⟨bo,fs.length * 6+3,none⟩) hbo6).trans k3,hS.2.alloc _⟩
      have hbo7:bo < (w6.drew.alloc (.cells (zj zeroTT).toArray 48)).heap.size:=Nat.lt_of_lt_of_le hbo6 hba.size
      clear hK K hba k3 kf hS
      try simp only[Act.put,zlA,zlB,zlC]
      refine za (rs:=[7]) (by kernel_rfl) (by simp) ?_
      refine' ReadyL.cons ?o33 (fun K hK=>?s33) ReadyL.nil
      case o33=>simp only[zlD,zlF,zlE];rfl
      refine zA _ (by rfl) (.tmp 38) (.tmp 41) 27 (by rfl) base 48 i0 _ 6 128 Tryz.underlying27 hi hz0 hz1 hz2 rfl (by omega) (.slice a.K a.kn a.kc) a.kn _ (by rfl) (h6a.kid a (by simp)) _ (some ⟨w6.heap.size,0,none⟩) 1 1 (zj zeroTT) (by rfl) (by simp) (by rfl) (za0 (Whole.made w6.drew _ _) rfl) (zaZ _) (by simp only[maxLen];omega) (by omega) h6a.bw ?_
      intro v2 w7 hown7 hgr7 hbl7
      obtain⟨gK,kc',cur,rfl,hgKb,hgK⟩:∃ gK cap cur,v2=.slice (some ⟨gK,0,none⟩) (a.kn+1) cap/\base<=gK/\w7.heap[gK]?=some (.cells cur 48 (0,0)):=by
        rcases hown7.2 with ⟨_,h0⟩ | ⟨gK,cap,cur,hv,hb,hg,_⟩
        . omega
        . exact⟨gK,cap,cur,hv,hb,hg⟩
      rw[zm]at hgr7
      rw[zm,zm]at hbl7
      have hgKlt:gK < w7.heap.size:=(Array.getElem?_eq_some_iff.1 hgK).1
      have hne1:gK≠bo:=by
        rintro rfl
        rcases hbl7 with e | e
        . exact(h6a.ap1 gK (by rw[HAO.out];rfl)).2 a (by simp) e.symm
        . have e:some gK=some _:=e
          injection e with e
          exact Nat.lt_irrefl _ (Nat.lt_of_lt_of_eq hbo7 e.symm)
      have hne2:bo≠gK:=Ne.symm hne1
      have hcz:∀ j u,j < 6->(zj zeroTT)[j]?=some u->w7.cell? ⟨gK,a.kn * 6+j,none⟩=some u:=fun j u hj hu=>by
        have h1:=hown7
        rw[<-zL]at h1
        obtain⟨ad,e,_,hc⟩:=Lies.own h1 _ _ ((zav (a.kids++ [zeroTT]) a.kn zeroTT (by rw[<-HKA.out,List.getElem?_concat_length]) j hj).trans hu)
        injection e with e
        subst e
        rw[zbl]at hc
        exact hc
      have z0:w7.cell? ⟨gK,a.kn * 6,none⟩=some (.string ⟨#[]⟩):=hcz 0 _ (by omega) rfl
      have z1:=hcz 1 _ (by omega) rfl
      have z2:=hcz 2 _ (by omega) rfl
      have z3:=hcz 3 _ (by omega) rfl
      have z4:=hcz 4 _ (by omega) rfl
      have z5:=hcz 5 _ (by omega) rfl
      have zf0:w7.frozen? ⟨gK,a.kn * 6,none⟩=false:=frozen_of_row w7 gK _ cur _ hgK
      have zf1:w7.frozen? ⟨gK,a.kn * 6+1,none⟩=false:=frozen_of_row w7 gK _ cur _ hgK
      have zf2:w7.frozen? ⟨gK,a.kn * 6+2,none⟩=false:=frozen_of_row w7 gK _ cur _ hgK
      have zf3:w7.frozen? ⟨gK,a.kn * 6+3,none⟩=false:=frozen_of_row w7 gK _ cur _ hgK
      have zf4:w7.frozen? ⟨gK,a.kn * 6+4,none⟩=false:=frozen_of_row w7 gK _ cur _ hgK
      have zf5:w7.frozen? ⟨gK,a.kn * 6+5,none⟩=false:=frozen_of_row w7 gK _ cur _ hgK
      have haf:(⟨gK,0,none⟩:Addr).add (a.kn * 6)=⟨gK,a.kn * 6,none⟩:=zbl _ _
      have hnk:some bo≠blkA a.K:=fun e=>(h6a.ap1 bo (by rw[HAO.out];rfl)).2 a (by simp) e.symm
      have hbk:w7.heap[bo]?=(w6.drew.alloc (.cells (zj zeroTT).toArray 48)).heap[bo]?:=hgr7.block bo hbo7 hnk
      have q3:w7.cell? ⟨bo,fs.length * 6+3,none⟩=some (.slice a.K a.kn a.kc):=(World.cell?_of_block hbk).trans hS2.1
      have qf3:w7.frozen? ⟨bo,fs.length * 6+3,none⟩=false:=(World.frozen?_of_block hbk).trans (kfa _)
      have y7:Whole w7 eb 48 #[.string t1.tag.s,.slice t1.tag.A t1.tag.n t1.tag.c,.slice t1.A t1.n t1.c,.slice t1.K t1.kn t1.kc,.string t1.text.s,.slice t1.text.A t1.text.n t1.text.c]:=hS2.2.grown hgr7 (fun e=>by
        have h1:=(H1.out.kid a (by simp)).lt eb (by rw[zm];exact e.symm)
        omega)
      have ho7:=hown7
      rw[<-zL]at ho7
      obtain⟨ho8,hm8⟩:=zbk (k:=a.kn) t1 ho7 (by rw[List.length_append,HKA.out];show _ < _+1;omega)
      have hset:(a.kids++ [zeroTT]).set a.kn t1=a.kids++ [t1]:=by
        rw[List.set_append,if_neg (by rw[HKA.out];omega),HKA.out,Nat.sub_self]
        rfl
      rw[hset,zao]at ho8
      have hgr8:(w6.drew.alloc (.cells (zj zeroTT).toArray 48)).grownBy ((((((w7.setCell ⟨gK,a.kn * 6,none⟩ (.string t1.tag.s)).setCell ⟨gK,a.kn * 6+1,none⟩ (.slice t1.tag.A t1.tag.n t1.tag.c)).setCell ⟨gK,a.kn * 6+2,none⟩ (.slice t1.A t1.n t1.c)).setCell ⟨gK,a.kn * 6+3,none⟩ (.slice t1.K t1.kn t1.kc)).setCell ⟨gK,a.kn * 6+4,none⟩ (.string t1.text.s)).setCell ⟨gK,a.kn * 6+5,none⟩ (.slice t1.text.A t1.text.n t1.text.c)) (blkA a.K):=
        ⟨hm8.os.trans hgr7.os,hm8.tape.trans hgr7.tape,hm8.output.trans hgr7.output,Nat.le_trans hgr7.size hm8.size,fun k hk hs=>(hm8.block k (Nat.lt_of_lt_of_le hk hgr7.size) (fun e=>by
          rcases hbl7 with e2 | e2
          . exact hs (by rw[e,<-e2];rfl)
          . have e2:some gK=some _:=e2
            injection e2 with e2
            exact Nat.lt_irrefl _ (Nat.lt_of_lt_of_eq hk (e.trans e2).symm))).trans (hgr7.block k hk hs)⟩
      have HF7:=Lib.hid (h6a.settle (ms:=[t1]) HA7.out hgr8 hbl7 ho8 HAO.out)
      have HB7:Hid (Below base w (((((((w7.setCell ⟨gK,a.kn * 6,none⟩ (.string t1.tag.s)).setCell ⟨gK,a.kn * 6+1,none⟩ (.slice t1.tag.A t1.tag.n t1.tag.c)).setCell ⟨gK,a.kn * 6+2,none⟩ (.slice t1.A t1.n t1.c)).setCell ⟨gK,a.kn * 6+3,none⟩ (.slice t1.K t1.kn t1.kc)).setCell ⟨gK,a.kn * 6+4,none⟩ (.string t1.text.s)).setCell ⟨gK,a.kn * 6+5,none⟩ (.slice t1.text.A t1.text.n t1.text.c)).setCell ⟨bo,fs.length * 6+3,none⟩ (.slice (some ⟨gK,0,none⟩) (a.kn+1) kc'))):=by
        have h2:Below base (w6.drew.alloc (.cells (zj zeroTT).toArray 48)) ((((((w7.setCell ⟨gK,a.kn * 6,none⟩ (.string t1.tag.s)).setCell ⟨gK,a.kn * 6+1,none⟩ (.slice t1.tag.A t1.tag.n t1.tag.c)).setCell ⟨gK,a.kn * 6+2,none⟩ (.slice t1.A t1.n t1.c)).setCell ⟨gK,a.kn * 6+3,none⟩ (.slice t1.K t1.kn t1.kc)).setCell ⟨gK,a.kn * 6+4,none⟩ (.string t1.text.s)).setCell ⟨gK,a.kn * 6+5,none⟩ (.slice t1.text.A t1.text.n t1.text.c)):=(Below.refl base _).grown hgr8 h6a.bw (fun k hk=>((h6a.kid a (by simp)).lt k (by rw[zm];exact hk)).1)
        exact(HBA.out.trans h2).setCell (h6a.opn.lt bo (by rw[zm,HAO.out];rfl)).1 _
      have HCM:Hid ((((((((w7.setCell ⟨bo,fs.length * 6+3,none⟩ (.slice (some ⟨gK,0,none⟩) (a.kn+1) kc')).setCell ⟨gK,a.kn * 6,none⟩ (.string t1.tag.s)).setCell ⟨gK,a.kn * 6+1,none⟩ (.slice t1.tag.A t1.tag.n t1.tag.c)).setCell ⟨gK,a.kn * 6+2,none⟩ (.slice t1.A t1.n t1.c)).setCell ⟨gK,a.kn * 6+3,none⟩ (.slice t1.K t1.kn t1.kc)).setCell ⟨gK,a.kn * 6+4,none⟩ (.string t1.text.s)).setCell ⟨gK,a.kn * 6+5,none⟩ (.slice t1.text.A t1.text.n t1.text.c))=((((((w7.setCell ⟨gK,a.kn * 6,none⟩ (.string t1.tag.s)).setCell ⟨gK,a.kn * 6+1,none⟩ (.slice t1.tag.A t1.tag.n t1.tag.c)).setCell ⟨gK,a.kn * 6+2,none⟩ (.slice t1.A t1.n t1.c)).setCell ⟨gK,a.kn * 6+3,none⟩ (.slice t1.K t1.kn t1.kc)).setCell ⟨gK,a.kn * 6+4,none⟩ (.string t1.text.s)).setCell ⟨gK,a.kn * 6+5,none⟩ (.slice t1.text.A t1.text.n t1.text.c)).setCell ⟨bo,fs.length * 6+3,none⟩ (.slice (some ⟨gK,0,none⟩) (a.kn+1) kc')):=by
        show _=_
        rw[zy w7 ⟨bo,fs.length * 6+3,none⟩ ⟨gK,a.kn * 6,none⟩ hne2,zy _ ⟨bo,fs.length * 6+3,none⟩ ⟨gK,a.kn * 6+1,none⟩ hne2,zy _ ⟨bo,fs.length * 6+3,none⟩ ⟨gK,a.kn * 6+2,none⟩ hne2,zy _ ⟨bo,fs.length * 6+3,none⟩ ⟨gK,a.kn * 6+3,none⟩ hne2,zy _ ⟨bo,fs.length * 6+3,none⟩ ⟨gK,a.kn * 6+4,none⟩ hne2,zy _ ⟨bo,fs.length * 6+3,none⟩ ⟨gK,a.kn * 6+5,none⟩ hne2]
      refine hK.out _ _ (.inr ⟨q3,y7⟩) ?_
      clear hK K hown7 hgr7 hbl7 hgK hcz hbk y7 ho7 ho8 hm8 hset hgr8 hS2 h6a
      try simp only[Act.put,zlA,zlB,zlC]
      refine za (rs:=[8,10]) (by kernel_rfl) (by simp) ?_
      refine' ReadyL.cons ?o34 (fun K hK=>?s34) ?m34
      case o34=>simp only[zlD,zlF,zlE];rfl
      case s34=>
        go_simp
        refine hK.out _ _ (.inl (by decide)) ?_
        clear hK K
        try simp only[Act.put,zlA,zlB,zlC]
        refine za (rs:=[9,10]) (by kernel_rfl) (by simp) ?_
        refine' ReadyL.cons ?o35 (fun K hK=>?s35) ?m35
        case o35=>simp only[zlD,zlF,zlE];rfl
        case s35=>
          go_simp
          refine hK.out _ _ (.inl (by decide)) ?_
          clear hK K
          try simp only[Act.put,zlA,zlB,zlC]
          refine za (rs:=[10]) (by kernel_rfl) (by simp) ?_
          refine' ReadyL.cons ?o36 (fun K hK=>?s36) ReadyL.nil
          case o36=>simp only[zlD,zlF,zlE];rfl
          go_simp
          refine hK.out _ _ (.inl (by decide)) ?_
          clear hK K
          try simp only[Act.put,zlA,zlB,zlC]
          refine za (rs:=[11]) (by kernel_rfl) (by simp) ?_
          refine' ReadyL.cons ?o37 (fun K hK=>?s37) ReadyL.nil
          case o37=>simp only[zlD,zlF,zlE];rfl
          go_simp
          refine hK.out _ _ (.inl (by decide)) ?_
          clear hK K
          try simp only[Act.put,zlA,zlB,zlC]
          refine za (rs:=[12]) (by kernel_rfl) (by simp) ?_
          refine' ReadyL.cons ?o38 (fun K hK=>?s38) ReadyL.nil
          case o38=>simp only[zlD,zlF,zlE];rfl
          go_simp
          refine hK.out _ _ (.inl (by decide)) ?_
          clear hK K
          try simp only[Act.put,zlA,zlB,zlC]
          refine zg (by kernel_rfl) ?_ _
          go_wp2_with fail
          go_end0
          exact⟨rfl,some ⟨gK,0,none⟩,kc',t1,by rw[HX.out];exact HF7.out,HT1.out,HB7.out⟩
        refine' ReadyL.cons ?o39 (fun K hK=>?s39) ReadyL.nil
        case o39=>simp only[zlD,zlF,zlE];rfl
        go_simp
        refine hK.out _ _ (.inl (by decide)) ?_
        clear hK K
        try simp only[Act.put,zlA,zlB,zlC]
        refine za (rs:=[9,11]) (by kernel_rfl) (by simp) ?_
        refine' ReadyL.cons ?o40 (fun K hK=>?s40) ?m40
        case o40=>simp only[zlD,zlF,zlE];rfl
        case s40=>
          go_simp
          refine hK.out _ _ (.inl (by decide)) ?_
          clear hK K
          try simp only[Act.put,zlA,zlB,zlC]
          refine za (rs:=[11]) (by kernel_rfl) (by simp) ?_
          refine' ReadyL.cons ?o41 (fun K hK=>?s41) ReadyL.nil
          case o41=>simp only[zlD,zlF,zlE];rfl
          go_simp
          refine hK.out _ _ (.inl (by decide)) ?_
          clear hK K
          try simp only[Act.put,zlA,zlB,zlC]
          refine za (rs:=[12]) (by kernel_rfl) (by simp) ?_
          refine' ReadyL.cons ?o42 (fun K hK=>?s42) ReadyL.nil
          case o42=>simp only[zlD,zlF,zlE];rfl
          go_simp
          refine hK.out _ _ (.inl (by decide)) ?_
          clear hK K
          try simp only[Act.put,zlA,zlB,zlC]
          refine zg (by kernel_rfl) ?_ _
          go_wp2_with fail
          go_end0
          exact⟨rfl,some ⟨gK,0,none⟩,kc',t1,by rw[HX.out];exact HF7.out,HT1.out,HB7.out⟩
        refine' ReadyL.cons ?o43 (fun K hK=>?s43) ReadyL.nil
        case o43=>simp only[zlD,zlF,zlE];rfl
        go_simp
        refine hK.out _ _ (.inl (by decide)) ?_
        clear hK K
        try simp only[Act.put,zlA,zlB,zlC]
        refine za (rs:=[9,12]) (by kernel_rfl) (by simp) ?_
        refine' ReadyL.cons ?o44 (fun K hK=>?s44) ?m44
        case o44=>simp only[zlD,zlF,zlE];rfl
        case s44=>
          go_simp
          refine hK.out _ _ (.inl (by decide)) ?_
          clear hK K
          try simp only[Act.put,zlA,zlB,zlC]
          refine za (rs:=[12]) (by kernel_rfl) (by simp) ?_
          refine' ReadyL.cons ?o45 (fun K hK=>?s45) ReadyL.nil
          case o45=>simp only[zlD,zlF,zlE];rfl
          go_simp
          refine hK.out _ _ (.inl (by decide)) ?_
          clear hK K
          try simp only[Act.put,zlA,zlB,zlC]
          refine zg (by kernel_rfl) ?_ _
          go_wp2_with fail
          go_end0
          exact⟨rfl,some ⟨gK,0,none⟩,kc',t1,by rw[HX.out];exact HF7.out,HT1.out,HB7.out⟩
        refine' ReadyL.cons ?o46 (fun K hK=>?s46) ReadyL.nil
        case o46=>simp only[zlD,zlF,zlE];rfl
        go_simp
        refine hK.out _ _ (.inl (by decide)) ?_
        clear hK K
        try simp only[Act.put,zlA,zlB,zlC]
        refine za (rs:=[9]) (by kernel_rfl) (by simp) ?_
        refine' ReadyL.cons ?o47 (fun K hK=>?s47) ReadyL.nil
        case o47=>simp only[zlD,zlF,zlE];rfl
        go_simp
        refine hK.out _ _ (.inl (by decide)) ?_
        clear hK K
        try simp only[Act.put,zlA,zlB,zlC]
        refine zg (by kernel_rfl) ?_ _
        go_wp2_with fail
        go_end0
        exact⟨rfl,some ⟨gK,0,none⟩,kc',t1,by rw[HX.out,HCM.out];exact HF7.out,HT1.out,by rw[HCM.out];exact HB7.out⟩
      refine' ReadyL.cons ?o48 (fun K hK=>?s48) ReadyL.nil
      case o48=>simp only[zlD,zlF,zlE];rfl
      go_simp
      refine hK.out _ _ (.inl (by decide)) ?_
      clear hK K
      try simp only[Act.put,zlA,zlB,zlC]
      refine za (rs:=[8,11]) (by kernel_rfl) (by simp) ?_
      refine' ReadyL.cons ?o49 (fun K hK=>?s49) ?m49
      case o49=>simp only[zlD,zlF,zlE];rfl
      case s49=>
        go_simp
        refine hK.out _ _ (.inl (by decide)) ?_
        clear hK K
        try simp only[Act.put,zlA,zlB,zlC]
        refine za (rs:=[9,11]) (by kernel_rfl) (by simp) ?_
        refine' ReadyL.cons ?o50 (fun K hK=>?s50) ?m50
        case o50=>simp only[zlD,zlF,zlE];rfl
        case s50=>
          go_simp
          refine hK.out _ _ (.inl (by decide)) ?_
          clear hK K
          try simp only[Act.put,zlA,zlB,zlC]
          refine za (rs:=[11]) (by kernel_rfl) (by simp) ?_
          refine' ReadyL.cons ?o51 (fun K hK=>?s51) ReadyL.nil
          case o51=>simp only[zlD,zlF,zlE];rfl
          go_simp
          refine hK.out _ _ (.inl (by decide)) ?_
          clear hK K
          try simp only[Act.put,zlA,zlB,zlC]
          refine za (rs:=[12]) (by kernel_rfl) (by simp) ?_
          refine' ReadyL.cons ?o52 (fun K hK=>?s52) ReadyL.nil
          case o52=>simp only[zlD,zlF,zlE];rfl
          go_simp
          refine hK.out _ _ (.inl (by decide)) ?_
          clear hK K
          try simp only[Act.put,zlA,zlB,zlC]
          refine zg (by kernel_rfl) ?_ _
          go_wp2_with fail
          go_end0
          exact⟨rfl,some ⟨gK,0,none⟩,kc',t1,by rw[HX.out];exact HF7.out,HT1.out,HB7.out⟩
        refine' ReadyL.cons ?o53 (fun K hK=>?s53) ReadyL.nil
        case o53=>simp only[zlD,zlF,zlE];rfl
        go_simp
        refine hK.out _ _ (.inl (by decide)) ?_
        clear hK K
        try simp only[Act.put,zlA,zlB,zlC]
        refine za (rs:=[9,12]) (by kernel_rfl) (by simp) ?_
        refine' ReadyL.cons ?o54 (fun K hK=>?s54) ?m54
        case o54=>simp only[zlD,zlF,zlE];rfl
        case s54=>
          go_simp
          refine hK.out _ _ (.inl (by decide)) ?_
          clear hK K
          try simp only[Act.put,zlA,zlB,zlC]
          refine za (rs:=[12]) (by kernel_rfl) (by simp) ?_
          refine' ReadyL.cons ?o55 (fun K hK=>?s55) ReadyL.nil
          case o55=>simp only[zlD,zlF,zlE];rfl
          go_simp
          refine hK.out _ _ (.inl (by decide)) ?_
          clear hK K
          try simp only[Act.put,zlA,zlB,zlC]
          refine zg (by kernel_rfl) ?_ _
          go_wp2_with fail
          go_end0
          exact⟨rfl,some ⟨gK,0,none⟩,kc',t1,by rw[HX.out];exact HF7.out,HT1.out,HB7.out⟩
        refine' ReadyL.cons ?o56 (fun K hK=>?s56) ReadyL.nil
        case o56=>simp only[zlD,zlF,zlE];rfl
        go_simp
        refine hK.out _ _ (.inl (by decide)) ?_
        clear hK K
        try simp only[Act.put,zlA,zlB,zlC]
        refine za (rs:=[9]) (by kernel_rfl) (by simp) ?_
        refine' ReadyL.cons ?o57 (fun K hK=>?s57) ReadyL.nil
        case o57=>simp only[zlD,zlF,zlE];rfl
        go_simp
        refine hK.out _ _ (.inl (by decide)) ?_
        clear hK K
        try simp only[Act.put,zlA,zlB,zlC]
        refine zg (by kernel_rfl) ?_ _
        go_wp2_with fail
        go_end0
        exact⟨rfl,some ⟨gK,0,none⟩,kc',t1,by rw[HX.out,HCM.out];exact HF7.out,HT1.out,by rw[HCM.out];exact HB7.out⟩
      refine' ReadyL.cons ?o58 (fun K hK=>?s58) ReadyL.nil
      case o58=>simp only[zlD,zlF,zlE];rfl
      go_simp
      refine hK.out _ _ (.inl (by decide)) ?_
      clear hK K
      try simp only[Act.put,zlA,zlB,zlC]
      refine za (rs:=[8,12]) (by kernel_rfl) (by simp) ?_
      refine' ReadyL.cons ?o59 (fun K hK=>?s59) ?m59
      case o59=>simp only[zlD,zlF,zlE];rfl
      case s59=>
        go_simp
        refine hK.out _ _ (.inl (by decide)) ?_
        clear hK K
        try simp only[Act.put,zlA,zlB,zlC]
        refine za (rs:=[9,12]) (by kernel_rfl) (by simp) ?_
        refine' ReadyL.cons ?o60 (fun K hK=>?s60) ?m60
        case o60=>simp only[zlD,zlF,zlE];rfl
        case s60=>
          go_simp
          refine hK.out _ _ (.inl (by decide)) ?_
          clear hK K
          try simp only[Act.put,zlA,zlB,zlC]
          refine za (rs:=[12]) (by kernel_rfl) (by simp) ?_
          refine' ReadyL.cons ?o61 (fun K hK=>?s61) ReadyL.nil
          case o61=>simp only[zlD,zlF,zlE];rfl
          go_simp
          refine hK.out _ _ (.inl (by decide)) ?_
          clear hK K
          try simp only[Act.put,zlA,zlB,zlC]
          refine zg (by kernel_rfl) ?_ _
          go_wp2_with fail
          go_end0
          exact⟨rfl,some ⟨gK,0,none⟩,kc',t1,by rw[HX.out];exact HF7.out,HT1.out,HB7.out⟩
        refine' ReadyL.cons ?o62 (fun K hK=>?s62) ReadyL.nil
        case o62=>simp only[zlD,zlF,zlE];rfl
        go_simp
        refine hK.out _ _ (.inl (by decide)) ?_
        clear hK K
        try simp only[Act.put,zlA,zlB,zlC]
        refine za (rs:=[9]) (by kernel_rfl) (by simp) ?_
        refine' ReadyL.cons ?o63 (fun K hK=>?s63) ReadyL.nil
        case o63=>simp only[zlD,zlF,zlE];rfl
        go_simp
        refine hK.out _ _ (.inl (by decide)) ?_
        clear hK K
        try simp only[Act.put,zlA,zlB,zlC]
        refine zg (by kernel_rfl) ?_ _
        go_wp2_with fail
        go_end0
        exact⟨rfl,some ⟨gK,0,none⟩,kc',t1,by rw[HX.out,HCM.out];exact HF7.out,HT1.out,by rw[HCM.out];exact HB7.out⟩
      refine' ReadyL.cons ?o64 (fun K hK=>?s64) ReadyL.nil
      case o64=>simp only[zlD,zlF,zlE];rfl
      go_simp
      refine hK.out _ _ (.inl (by decide)) ?_
      clear hK K
      try simp only[Act.put,zlA,zlB,zlC]
      refine za (rs:=[8]) (by kernel_rfl) (by simp) ?_
      refine' ReadyL.cons ?o65 (fun K hK=>?s65) ReadyL.nil
      case o65=>simp only[zlD,zlF,zlE];rfl
      go_simp
      refine hK.out _ _ (.inl (by decide)) ?_
      clear hK K
      try simp only[Act.put,zlA,zlB,zlC]
      refine za (rs:=[9]) (by kernel_rfl) (by simp) ?_
      refine' ReadyL.cons ?o66 (fun K hK=>?s66) ReadyL.nil
      case o66=>simp only[zlD,zlF,zlE];rfl
      go_simp
      refine hK.out _ _ (.inl (by decide)) ?_
      clear hK K
      try simp only[Act.put,zlA,zlB,zlC]
      refine zg (by kernel_rfl) ?_ _
      go_wp2_with fail
      go_end0
      exact⟨rfl,some ⟨gK,0,none⟩,kc',t1,by rw[HX.out,HCM.out];exact HF7.out,HT1.out,by rw[HCM.out];exact HB7.out⟩
end Go.Proofs.YtddgabjhligeeaaGreat.mk
