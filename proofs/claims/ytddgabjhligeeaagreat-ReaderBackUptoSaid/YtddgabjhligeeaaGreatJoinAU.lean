import Derived.Test.YtddgabjhligeeaaGreatJoinAO
import Derived.Test.YtddgabjhligeeaaGreatJoinAS
import Derived.Test.YtddgabjhligeeaaGreatJoinH
set_option maxHeartbeats 8000000
set_option maxRecDepth 100000
namespace Go.Proofs.YtddgabjhligeeaaGreat.mk
open Go.RowKit
attribute [local go_sem] Oper.semAt_some zck zaD
theorem zmc(w:World)(t:TypeId)(cs:List Value):Lies (w.alloc (.cells cs.toArray t)) (w.heap.size+1) (some ⟨w.heap.size,0,none⟩) cs:=fun j u h=>⟨_,rfl,Nat.lt_succ_self _,zab w t cs j u h⟩
theorem zfg{id:Nat}{Q:Exit->Act->World->Prop}(h:∀ a w,¬ Q .outgrown a w):¬ LetsOut (Exit.inBlock id Q):=by
  rintro⟨a,w,h2⟩
  exact h a w h2
end Go.Proofs.YtddgabjhligeeaaGreat.mk
namespace Go.Proofs.YtddgabjhligeeaaGreat.mk
open Go.RowKit Go.Maps
attribute [local go_sem] Oper.semAt_some zck zaD
theorem zp3{K:Act->World->Prop}{Q:Exit->Act->World->Prop}(h:∀ a w,¬ Q .outgrown a w):¬ LetsOut (Exit.then K Q):=by
  rintro⟨a,w,h2⟩
  exact h a w h2
theorem znp(Q:List PT):(sibs Q).length<=bkL Q:=by
  have h1:(zj Q).length=(sibs Q).length:=by rw[zev,List.length_map]
  rw[<-h1]
  exact Nat.le_trans (zhX _) (zeb Q)
theorem znq{F:Nat}{g:Ch->Ch}(hF:AsF F g)(g0:g []=[]):∀ (Q:List PT) (S:Nat->Prop) (A:Option Addr) (n c:Nat) (ts:List TT) (w:World),chL ts=Q->bkL Q<=1048576->LiesS S w A (zf ts)->AllS S w ts->ts.length=n->(∀ b,S b->b < w.heap.size)->
    Calls Tryz.prog 57 #[.slice A n c,.func (.func F) #[] #[]] w (TellsT (fun b=>w.heap.size<=b) (mapL g (zj Q)) w):=by
  obtain⟨i0,hi,hiz0,hiz1,hiz2⟩:=info_parts zcs
  have HF:=Lib.hid hF
  have HG0:=Lib.hid g0
  clear hF g0
  apply PT.lt_ind
  intro Q IH S A n c ts w hq hbk hl hok hn hS
  have HIH:=Lib.hid IH
  have HQ:=Lib.hid hq
  have HL:=Lib.hid hl
  have HOK:=Lib.hid hok
  have HN:=Lib.hid hn
  have HS:=Lib.hid hS
  clear IH hq hl hok hn hS
  refine callsIn_wide.1 (callsIn_of_wp_marks (n:=1) Tryz.func57 rfl trivial ?_ rfl)
  simp only[Tryz.ntmps57,List.size_toArray,List.length_cons,List.length_nil,Nat.reduceAdd,Nat.reduceSub,Array.replicate_succ,Array.replicate_zero,List.push_toArray,List.append_toArray,List.nil_append,List.cons_append]
  generalize hw3:(w.alloc (.cells #[.func (.func F) #[] #[]] 34)).alloc (.cells #[.slice none 0 0] 27)=w3
  have hz3:w3.heap.size=w.heap.size+2:=by rw[<-hw3];simp
  have hb3:Below w.heap.size w w3:=by rw[<-hw3];exact((Below.refl _ _).alloc (Nat.le_refl _) _).alloc (by simp) _
  have y2:Whole w3 w.heap.size 34 #[.func (.func F) #[] #[]]:=by rw[<-hw3];exact(Whole.made w _ _).alloc _
  have y3:Whole w3 (w.heap.size+1) 27 #[.slice none 0 0]:=by
    rw[<-hw3]
    have h:=Whole.made (w.alloc (.cells #[.func (.func F) #[] #[]] 34)) 27 #[.slice none 0 0]
    simp only[World.size_alloc]at h
    exact h
  gi_wp2_with fail
  refine callsIn_wide.2 ((zfc A n c w3).mono ?_)
  rintro e w4 ⟨rfl,hc4,hlt4,hb4⟩
  rw[hz3]at hc4 hlt4
  have Y2:=Lib.hid (y2.below hb4 y2.lt)
  have Y3:=Lib.hid (y3.below hb4 y3.lt)
  have HB4:Hid (Below w.heap.size w w4):=zb hb3 (Nat.le_refl _) hb4
  have HC4:=Lib.hid hc4
  have hst4:Stays S w w4:=Stays.of HB4.out
  have HL4:=Lib.hid (HL.out.keep hst4)
  have HO4:=Lib.hid (HOK.out.keep hst4)
  clear hw3 hb3 hb4 y2 y3 hc4 hst4
  gi_wp2_with fail
  have hbq:bkL (chL ts)<=1048576:=by rw[HQ.out];exact hbk
  refine zgd (gf:=137) (lb:=#[.pointer (some ⟨w.heap.size+2,0,none⟩)]) (encs:=encT) (Sh:=ShT S) (okp:=fun p=>chL p <+: sibs (chL ts)) (done:=fun xs=>chL xs=sibs (chL ts)) (S:=S) rfl (fun _ _=>rfl) ?gives (fun _=>rfl) (zio g (w.heap.size+1) w4) (fun b=>b=w.heap.size+1) (fun b hb=>?hS) (fun b hb=>?hK0) zni ?h0 ?round ?done
  case gives=>
    intro W' hb
    have hst:Stays S w4 W':=Stays.of hb
    exact zhq ((hb.cell (p:=⟨w.heap.size+2,0,none⟩) hlt4).trans HC4.out) (HL4.out.keep hst) (HO4.out.keep hst) HN.out (fun b h=>by have:=HS.out b h;have:=hb.size;omega) hbq
  case hS=>have:=HS.out b hb;omega
  case hK0=>subst hb;exact⟨by omega,fun h=>by have:=HS.out _ h;omega⟩
  case h0=>exact⟨_,[],Y3.out,World.ownsRow_nil _ _ _ _,(fun g h=>by cases h),AllS.nil _ _,⟨rfl,(fun x hx=>by cases hx),fun _=>rfl⟩,rfl,(fun b h=>by omega),Moved.refl _ _⟩
  case round=>
    rintro l pre K G x W1 ⟨v,us,hy,hown,hg,hus,he,hkb,hkl,hm⟩ hsh hokx hl1 hl2 hkl2 hgl hks hG
    have hz41:w4.heap.size<=W1.heap.size:=hm.size
    have hzb:us.length<=1048576:=by
      have h1:=hokx.length_le
      rw[zr,List.length_append]at h1
      have h2:=congrArg List.length he.1
      rw[zx,List.length_map]at h2
      have h3:=znp (chL ts)
      omega
    have hmem:x.ch∈sibs (chL ts):=hokx.subset (by rw[zr,chL,chL];simp)
    have hlt:=zsI hmem
    rw[TT.ch_kids,HQ.out]at hlt
    have HLT:=Lib.hid hlt
    have HOS:=Lib.hid (zoj hmem).1
    unfold encT
    generalize hw2:W1.alloc (.cells #[.string x.tag.s,.slice x.tag.A x.tag.n x.tag.c,.slice x.A x.n x.c,.slice x.K x.kn x.kc,.string x.text.s,.slice x.text.A x.text.n x.text.c] 48)=W2
    have y2:Whole W2 W1.heap.size 48 #[.string x.tag.s,.slice x.tag.A x.tag.n x.tag.c,.slice x.A x.n x.c,.slice x.K x.kn x.kc,.string x.text.s,.slice x.text.A x.text.n x.text.c]:=by rw[<-hw2];exact Whole.made _ _ _
    have hb2:Below W1.heap.size W1 W2:=by rw[<-hw2];exact(Below.refl _ _).alloc (Nat.le_refl _) _
    have hz2:=y2.lt
    have HFIN0:Hid (∀ W3,Moved (fun b=>b=l) W2 W3->W1.heap.size < W3.heap.size/\Whole W3 W1.heap.size 48 #[.string x.tag.s,.slice x.tag.A x.tag.n x.tag.c,.slice x.A x.n x.c,.slice x.K x.kn x.kc,.string x.text.s,.slice x.text.A x.text.n x.text.c]/\
        Whole W3 w.heap.size 34 #[.func (.func F) #[] #[]]/\Whole W3 (w.heap.size+1) 27 #[v]/\W3.ownsRow w4.heap.size 48 6 v us.length (zf us)/\AllS (fun b=>K b/\b≠w.heap.size+1/\v.ownBlock≠some b) W3 us/\Moved (fun i=>w.heap.size+1<=i) w4 W3/\ShT S x G W3):=by
      intro W3 hm3
      have hm13:Moved (fun b=>b=l) W1 W3:=(Moved.of_below hb2).join hm3 fun _ _ h=>h
      have hm43:Moved (fun i=>w.heap.size+1<=i) w4 W3:=hm.join hm13 fun i hi h=>by omega
      exact⟨Nat.lt_of_lt_of_le hz2 hm3.size,hm3.whole y2 (fun h=>by omega),hm43.whole Y2.out (fun h=>by omega),hm13.whole hy (fun h=>by omega),hm13.own hown (fun i hi h=>hkl2 (h ▸ hg i hi)),hus.keep (hm13.stays fun i _ h h2=>hkl2 (h2 ▸ h.1)),hm43,hsh.moved (hm13.mono fun i _ h=>by rintro(h2 | h2);have:=HS.out i h2;omega;exact hgl (h ▸ h2))⟩
    have HG:=Lib.hid hg
    have HE:=Lib.hid he
    have HKB:=Lib.hid hkb
    have HKL:=Lib.hid hkl
    obtain⟨A5,c5,rfl,_,_,_⟩:=zg hown
    clear hy hown hg hus he hkb hkl hm hsh hokx hks hG hlt hmem
    gi_wp2_with fail
    refine⟨hb2,fun W3 hm3=>?_⟩
    obtain⟨hz13,z3,v2,v3,hown3,hus3,hm43,hsh3⟩:=HFIN0.out W3 hm3
    have HOWN3:=Lib.hid hown3
    have HUS3:=Lib.hid hus3
    have HM43:=Lib.hid hm43
    have HSH3:=Lib.hid hsh3
    have HV3:=Lib.hid v3
    have HV2:=Lib.hid v2
    have HZ3:=Lib.hid z3
    have hzm3:=hm3.size
    have e0:W3.cell? ⟨W1.heap.size,0,none⟩=some (.string x.tag.s):=z3.at_ 0
    have e1:W3.cell? ⟨W1.heap.size,1,none⟩=some (.slice x.tag.A x.tag.n x.tag.c):=z3.at_ 1
    have e2:W3.cell? ⟨W1.heap.size,2,none⟩=some (.slice x.A x.n x.c):=z3.at_ 2
    have e3:W3.cell? ⟨W1.heap.size,3,none⟩=some (.slice x.K x.kn x.kc):=z3.at_ 3
    have e4:W3.cell? ⟨W1.heap.size,4,none⟩=some (.string x.text.s):=z3.at_ 4
    have e5:W3.cell? ⟨W1.heap.size,5,none⟩=some (.slice x.text.A x.text.n x.text.c):=z3.at_ 5
    clear hm3 y2 hb2 hw2 HFIN0 hown3 hus3 hm43 hsh3 v3 v2 z3
    gi_wp2_with fail
    refine CallsIn.inRound l (callsIn_wide.2 ((zf8 x W3).mono ?_))
    rintro e W4 ⟨rfl,hb34⟩
    have HB34:=Lib.hid hb34
    have hz34:=hb34.size
    have HCELLS:Hid (∀ V,Below W4.heap.size W4 V->(V.cell? ⟨w.heap.size,0,none⟩=some (.func (.func F) #[] #[])/\V.cell? ⟨W1.heap.size,0,none⟩=some (.string x.tag.s)/\V.cell? ⟨W1.heap.size,1,none⟩=some (.slice x.tag.A x.tag.n x.tag.c)/\V.cell? ⟨W1.heap.size,2,none⟩=some (.slice x.A x.n x.c)/\V.cell? ⟨W1.heap.size,3,none⟩=some (.slice x.K x.kn x.kc)/\V.cell? ⟨W1.heap.size,4,none⟩=some (.string x.text.s)/\V.cell? ⟨W1.heap.size,5,none⟩=some (.slice x.text.A x.text.n x.text.c))/\Whole V W1.heap.size 48 #[.string x.tag.s,.slice x.tag.A x.tag.n x.tag.c,.slice x.A x.n x.c,.slice x.K x.kn x.kc,.string x.text.s,.slice x.text.A x.text.n x.text.c]/\Below W3.heap.size W3 V):=fun V h=>by
      have hb:=zb hb34 (Nat.le_refl _) h
      have z:=HZ3.out.below hb HZ3.out.lt
      exact⟨⟨(HV2.out.below hb HV2.out.lt).at_ 0,z.at_ 0,z.at_ 1,z.at_ 2,z.at_ 3,z.at_ 4,z.at_ 5⟩,z,hb⟩
    have HSB:Hid (∀ V,Below W4.heap.size W4 V->V.cell? ⟨w.heap.size,0,none⟩=some (.func (.func F) #[] #[])/\V.cell? ⟨W1.heap.size,0,none⟩=some (.string x.tag.s)/\V.cell? ⟨W1.heap.size,1,none⟩=some (.slice x.tag.A x.tag.n x.tag.c)/\V.cell? ⟨W1.heap.size,2,none⟩=some (.slice x.A x.n x.c)/\V.cell? ⟨W1.heap.size,3,none⟩=some (.slice x.K x.kn x.kc)/\V.cell? ⟨W1.heap.size,4,none⟩=some (.string x.text.s)/\V.cell? ⟨W1.heap.size,5,none⟩=some (.slice x.text.A x.text.n x.text.c)):=fun V h=>(HCELLS.out V h).1
    have HFR:Hid (∀ V,Below W4.heap.size W4 V->V.frozen? ⟨W1.heap.size,0,none⟩=false/\V.frozen? ⟨W1.heap.size,1,none⟩=false/\V.frozen? ⟨W1.heap.size,2,none⟩=false/\V.frozen? ⟨W1.heap.size,3,none⟩=false/\V.frozen? ⟨W1.heap.size,4,none⟩=false/\V.frozen? ⟨W1.heap.size,5,none⟩=false):=fun V h=>by
      have z:=(HCELLS.out V h).2.1
      exact⟨z.free 0,z.free 1,z.free 2,z.free 3,z.free 4,z.free 5⟩
    have HSHV:Hid (∀ V,Below W4.heap.size W4 V->ShT S x G V):=fun V h=>HSH3.out.moved (Moved.of_below (HCELLS.out V h).2.2)
    -- what holds behind a round,whatever tree has been made
    have HG7:Hid (∀ (T:TT) (W6 w7:World) (d7 g7:Nat) (o:Obj),zkS g W1 W3 x T W6->w7.ownsRow w4.heap.size 48 6 (.slice (some ⟨g7,0,none⟩) (us.length+1) d7) (us.length+1) (zf us++ zk zeroTT)->(W6.alloc o).grownBy w7 (Value.slice A5 us.length c5).ownBlock->((Value.slice (some ⟨g7,0,none⟩) (us.length+1) d7).ownBlock=(Value.slice A5 us.length c5).ownBlock\/(Value.slice (some ⟨g7,0,none⟩) (us.length+1) d7).ownBlock=some (W6.alloc o).heap.size)->
        ((w7.cell? ⟨g7,us.length * 6,none⟩=some (.string zeroTT.tag.s)/\w7.cell? ⟨g7,us.length * 6+1,none⟩=some (.slice zeroTT.tag.A zeroTT.tag.n zeroTT.tag.c)/\w7.cell? ⟨g7,us.length * 6+2,none⟩=some (.slice zeroTT.A zeroTT.n zeroTT.c)/\w7.cell? ⟨g7,us.length * 6+3,none⟩=some (.slice zeroTT.K zeroTT.kn zeroTT.kc)/\w7.cell? ⟨g7,us.length * 6+4,none⟩=some (.string zeroTT.text.s)/\w7.cell? ⟨g7,us.length * 6+5,none⟩=some (.slice zeroTT.text.A zeroTT.text.n zeroTT.text.c)/\w7.frozen? ⟨g7,us.length * 6,none⟩=false/\w7.frozen? ⟨g7,us.length * 6+1,none⟩=false/\w7.frozen? ⟨g7,us.length * 6+2,none⟩=false/\w7.frozen? ⟨g7,us.length * 6+3,none⟩=false/\w7.frozen? ⟨g7,us.length * 6+4,none⟩=false/\w7.frozen? ⟨g7,us.length * 6+5,none⟩=false)/\(w7.cell? ⟨w.heap.size+1,0,none⟩=some (.slice A5 us.length c5)/\w7.frozen? ⟨w.heap.size+1,0,none⟩=false)/\(((((((w7.setCell ⟨g7,us.length * 6,none⟩ (.string T.tag.s)).setCell ⟨g7,us.length * 6+1,none⟩ (.slice T.tag.A T.tag.n T.tag.c)).setCell ⟨g7,us.length * 6+2,none⟩ (.slice T.A T.n T.c)).setCell ⟨g7,us.length * 6+3,none⟩ (.slice T.K T.kn T.kc)).setCell ⟨g7,us.length * 6+4,none⟩ (.string T.text.s)).setCell ⟨g7,us.length * 6+5,none⟩ (.slice T.text.A T.text.n T.text.c)).cell? ⟨w.heap.size+1,0,none⟩=some (.slice A5 us.length c5)/\((((((w7.setCell ⟨g7,us.length * 6,none⟩ (.string T.tag.s)).setCell ⟨g7,us.length * 6+1,none⟩ (.slice T.tag.A T.tag.n T.tag.c)).setCell ⟨g7,us.length * 6+2,none⟩ (.slice T.A T.n T.c)).setCell ⟨g7,us.length * 6+3,none⟩ (.slice T.K T.kn T.kc)).setCell ⟨g7,us.length * 6+4,none⟩ (.string T.text.s)).setCell ⟨g7,us.length * 6+5,none⟩ (.slice T.text.A T.text.n T.text.c)).frozen? ⟨w.heap.size+1,0,none⟩=false))/\(∀ u,(w7.setCell ⟨w.heap.size+1,0,none⟩ u).cell? ⟨g7,us.length * 6,none⟩=some (.string zeroTT.tag.s)/\(w7.setCell ⟨w.heap.size+1,0,none⟩ u).cell? ⟨g7,us.length * 6+1,none⟩=some (.slice zeroTT.tag.A zeroTT.tag.n zeroTT.tag.c)/\(w7.setCell ⟨w.heap.size+1,0,none⟩ u).cell? ⟨g7,us.length * 6+2,none⟩=some (.slice zeroTT.A zeroTT.n zeroTT.c)/\(w7.setCell ⟨w.heap.size+1,0,none⟩ u).cell? ⟨g7,us.length * 6+3,none⟩=some (.slice zeroTT.K zeroTT.kn zeroTT.kc)/\(w7.setCell ⟨w.heap.size+1,0,none⟩ u).cell? ⟨g7,us.length * 6+4,none⟩=some (.string zeroTT.text.s)/\(w7.setCell ⟨w.heap.size+1,0,none⟩ u).cell? ⟨g7,us.length * 6+5,none⟩=some (.slice zeroTT.text.A zeroTT.text.n zeroTT.text.c)/\(w7.setCell ⟨w.heap.size+1,0,none⟩ u).frozen? ⟨g7,us.length * 6,none⟩=false/\(w7.setCell ⟨w.heap.size+1,0,none⟩ u).frozen? ⟨g7,us.length * 6+1,none⟩=false/\(w7.setCell ⟨w.heap.size+1,0,none⟩ u).frozen? ⟨g7,us.length * 6+2,none⟩=false/\(w7.setCell ⟨w.heap.size+1,0,none⟩ u).frozen? ⟨g7,us.length * 6+3,none⟩=false/\(w7.setCell ⟨w.heap.size+1,0,none⟩ u).frozen? ⟨g7,us.length * 6+4,none⟩=false/\(w7.setCell ⟨w.heap.size+1,0,none⟩ u).frozen? ⟨g7,us.length * 6+5,none⟩=false)/\(∃ K',zio g (w.heap.size+1) w4 (pre++ [x]) K' (((((((w7.setCell ⟨g7,us.length * 6,none⟩ (.string T.tag.s)).setCell ⟨g7,us.length * 6+1,none⟩ (.slice T.tag.A T.tag.n T.tag.c)).setCell ⟨g7,us.length * 6+2,none⟩ (.slice T.A T.n T.c)).setCell ⟨g7,us.length * 6+3,none⟩ (.slice T.K T.kn T.kc)).setCell ⟨g7,us.length * 6+4,none⟩ (.string T.text.s)).setCell ⟨g7,us.length * 6+5,none⟩ (.slice T.text.A T.text.n T.text.c)).setCell ⟨w.heap.size+1,0,none⟩ (.slice (some ⟨g7,0,none⟩) (us.length+1) d7))/\(∀ b,K' b->K b\/G b\/(W1.heap.size<=b/\b < (((((((w7.setCell ⟨g7,us.length * 6,none⟩ (.string T.tag.s)).setCell ⟨g7,us.length * 6+1,none⟩ (.slice T.tag.A T.tag.n T.tag.c)).setCell ⟨g7,us.length * 6+2,none⟩ (.slice T.A T.n T.c)).setCell ⟨g7,us.length * 6+3,none⟩ (.slice T.K T.kn T.kc)).setCell ⟨g7,us.length * 6+4,none⟩ (.string T.text.s)).setCell ⟨g7,us.length * 6+5,none⟩ (.slice T.text.A T.text.n T.text.c)).setCell ⟨w.heap.size+1,0,none⟩ (.slice (some ⟨g7,0,none⟩) (us.length+1) d7)).heap.size))/\Moved (fun b=>K b\/G b\/W1.heap.size<=b) W3 (((((((w7.setCell ⟨g7,us.length * 6,none⟩ (.string T.tag.s)).setCell ⟨g7,us.length * 6+1,none⟩ (.slice T.tag.A T.tag.n T.tag.c)).setCell ⟨g7,us.length * 6+2,none⟩ (.slice T.A T.n T.c)).setCell ⟨g7,us.length * 6+3,none⟩ (.slice T.K T.kn T.kc)).setCell ⟨g7,us.length * 6+4,none⟩ (.string T.text.s)).setCell ⟨g7,us.length * 6+5,none⟩ (.slice T.text.A T.text.n T.text.c)).setCell ⟨w.heap.size+1,0,none⟩ (.slice (some ⟨g7,0,none⟩) (us.length+1) d7)))/\(∃ K',zio g (w.heap.size+1) w4 (pre++ [x]) K' (((((((w7.setCell ⟨w.heap.size+1,0,none⟩ (.slice (some ⟨g7,0,none⟩) (us.length+1) d7)).setCell ⟨g7,us.length * 6,none⟩ (.string T.tag.s)).setCell ⟨g7,us.length * 6+1,none⟩ (.slice T.tag.A T.tag.n T.tag.c)).setCell ⟨g7,us.length * 6+2,none⟩ (.slice T.A T.n T.c)).setCell ⟨g7,us.length * 6+3,none⟩ (.slice T.K T.kn T.kc)).setCell ⟨g7,us.length * 6+4,none⟩ (.string T.text.s)).setCell ⟨g7,us.length * 6+5,none⟩ (.slice T.text.A T.text.n T.text.c))/\(∀ b,K' b->K b\/G b\/(W1.heap.size<=b/\b < (((((((w7.setCell ⟨w.heap.size+1,0,none⟩ (.slice (some ⟨g7,0,none⟩) (us.length+1) d7)).setCell ⟨g7,us.length * 6,none⟩ (.string T.tag.s)).setCell ⟨g7,us.length * 6+1,none⟩ (.slice T.tag.A T.tag.n T.tag.c)).setCell ⟨g7,us.length * 6+2,none⟩ (.slice T.A T.n T.c)).setCell ⟨g7,us.length * 6+3,none⟩ (.slice T.K T.kn T.kc)).setCell ⟨g7,us.length * 6+4,none⟩ (.string T.text.s)).setCell ⟨g7,us.length * 6+5,none⟩ (.slice T.text.A T.text.n T.text.c)).heap.size))/\Moved (fun b=>K b\/G b\/W1.heap.size<=b) W3 (((((((w7.setCell ⟨w.heap.size+1,0,none⟩ (.slice (some ⟨g7,0,none⟩) (us.length+1) d7)).setCell ⟨g7,us.length * 6,none⟩ (.string T.tag.s)).setCell ⟨g7,us.length * 6+1,none⟩ (.slice T.tag.A T.tag.n T.tag.c)).setCell ⟨g7,us.length * 6+2,none⟩ (.slice T.A T.n T.c)).setCell ⟨g7,us.length * 6+3,none⟩ (.slice T.K T.kn T.kc)).setCell ⟨g7,us.length * 6+4,none⟩ (.string T.text.s)).setCell ⟨g7,us.length * 6+5,none⟩ (.slice T.text.A T.text.n T.text.c)))):=by
      intro T W6 w7 d7 g7 o hmade hown7 hgr hv'
      obtain⟨zt,hm36,hT,hTK,hTC⟩:=hmade
      have hrow:w7.ownsRow w4.heap.size 48 6 (.slice (some ⟨g7,0,none⟩) (us.length+1) d7) (us.length+1) (zf (us++ [zeroTT])):=by rw[zZ];exact hown7
      have hg7:=hrow.lt g7 rfl
      have hne:g7≠w.heap.size+1:=by omega
      have hz36:=hm36.size
      have hvb:(Value.slice A5 us.length c5).ownBlock≠some (w.heap.size+1):=fun h=>by have:=(HOWN3.out.lt _ h).1;omega
      have y7:Whole w7 (w.heap.size+1) 27 #[.slice A5 us.length c5]:=((hm36.whole HV3.out (fun h=>by omega)).alloc o).grown hgr (fun h=>hvb h.symm)
      have hlen:(us++ [zeroTT]).length=us.length+1:=by simp
      have hat:(us++ [zeroTT])[us.length]?=some zeroTT:=by simp
      have hset:(us++ [zeroTT]).set us.length T=us++ [T]:=by rw[List.set_append_right _ _ (Nat.le_refl _),Nat.sub_self];rfl
      have hA:=zb1 T hrow (k:=us.length) (by rw[hlen];omega)
      rw[hset]at hA
      obtain⟨oA,mA⟩:=hA
      have hrowB:∀ u,(w7.setCell ⟨w.heap.size+1,0,none⟩ u).ownsRow w4.heap.size 48 6 (.slice (some ⟨g7,0,none⟩) (us.length+1) d7) (us.length+1) (zf (us++ [zeroTT])):=fun u=>zQ hrow _ (fun h=>hne (by injection h)) u
      have hB:=zb1 T (hrowB (.slice (some ⟨g7,0,none⟩) (us.length+1) d7)) (k:=us.length) (by rw[hlen];omega)
      rw[hset]at hB
      obtain⟨oB,mB⟩:=hB
      have yA:=mA.whole y7 (fun h=>hne h.symm)
      refine⟨⟨zpV hrow hat hlen,⟨y7.at_ 0,y7.free 0⟩,⟨yA.at_ 0,yA.free 0⟩⟩,fun u=>zpV (hrowB u) hat hlen,?_,?_⟩
      . refine zhz (v':=.slice (some ⟨g7,0,none⟩) (us.length+1) d7) (by omega) hz41 hz13 HOWN3.out HG.out HUS3.out HE.out HKB.out HKL.out HM43.out hm36 hT hTK hTC hgr hv' (yA.put 0 _) (zQ oA _ (fun h=>hne (by injection h)) _) ?_
        exact(mA.mono fun i _ h=>.inr (by subst h;rfl)).join ((Moved.refl (fun b=>b=w.heap.size+1) _).setCell (p:=⟨w.heap.size+1,0,none⟩) rfl _) fun i _ h=>.inl h
      . refine zhz (v':=.slice (some ⟨g7,0,none⟩) (us.length+1) d7) (by omega) hz41 hz13 HOWN3.out HG.out HUS3.out HE.out HKB.out HKL.out HM43.out hm36 hT hTK hTC hgr hv' (mB.whole (y7.put 0 _) (fun h=>hne h.symm)) oB ?_
        exact((Moved.refl (fun b=>b=w.heap.size+1\/(Value.slice (some ⟨g7,0,none⟩) (us.length+1) d7).ownBlock=some b) w7).setCell (p:=⟨w.heap.size+1,0,none⟩) (.inl rfl) _).join mB fun i _ h=>.inr (by subst h;rfl)
    have hHB:=(Below.refl W4.heap.size W4)
    obtain⟨a0,a1,a2,a3,a4,a5,a6⟩:=HSB.out _ hHB
    clear e0 e1 e2 e3 e4 e5 hb34
    generalize hzu:us.length=z at *
    have HZU:=Lib.hid hzu
    clear hzu
    cases hel:elB x with
    | true=>
      have HTX:Hid (x.ch.text=[]):=HOS.out.2 (by rw[TT.ch_tag];exact(zom x).1 hel)
      clear hel
      have HCT:Hid (∀ V,Below W4.heap.size W4 V->Calls Tryz.prog F #[.agg #[.string x.tag.s,.slice x.tag.A x.tag.n x.tag.c]] V fun e w''=>∃ t':LT,e=.returned (.agg #[.string t'.s,.slice t'.A t'.n t'.c])/\Hid (t'.ch=g x.tag.ch/\OwnL w'' V.heap.size t')/\Below V.heap.size V w''):=fun V h=>HF.out.tells x.tag V (HSHV.out V h).1.tag.ok
      have HCA:Hid (∀ V,Below W4.heap.size W4 V->Calls Tryz.prog 100 #[.slice x.A x.n x.c,.func (.func F) #[] #[]] V (zi5 ((zH (x.atts.map AT.ch)).map (gA g)) V)):=fun V h=>by
        have hs:=(HSHV.out V h).1
        exact zpo HF.out x.A x.n x.c x.atts V hs.att.lies (fun a ha=>(hs.atts a ha).ok) hs.an (by have:=hs.am;omega)
      have HCK:Hid (∀ V,Below W4.heap.size W4 V->Calls Tryz.prog 57 #[.slice x.K x.kn x.kc,.func (.func F) #[] #[]] V (TellsT (fun b=>V.heap.size<=b) (mapL g (zj (chL x.kids))) V)):=fun V h=>by
        have hs:=HSHV.out V h
        exact HIH.out (chL x.kids) HLT.out S x.K x.kn x.kc x.kids V rfl (by have:=HLT.out;omega) hs.2.1 hs.2.2 hs.1.kn (fun b hb=>by have:=HS.out b hb;have:=h.size;omega)
      have HEL:Hid (∀ (t1:LT) (w5:World) (A1:Option Addr) (c1:Nat) (us1:List AT) (w6:World) (A2:Option Addr) (c2:Nat) (ks:List TT) (w7:World),Below W4.heap.size W4 w5->Below w5.heap.size w5 w6->Below w6.heap.size w6 w7->t1.ch=g x.tag.ch->OwnL w5 W4.heap.size t1->
          w6.ownsRow w5.heap.size 93 4 (.slice A1 us1.length c1) us1.length (zm us1)->AllOwn w6 w5.heap.size us1->us1.map AT.ch=(zH (x.atts.map AT.ch)).map (gA g)->
          w7.ownsRow w6.heap.size 48 6 (.slice A2 ks.length c2) ks.length (zf ks)->AllS (fun b=>w6.heap.size<=b) w7 ks->(chL ks=mapL g (zj (chL x.kids))/\(∀ x∈ks,Kz x)/\(ks=[]->A2=none/\c2=0))->
          zkS g W1 W3 x (ztL t1 A1 c1 us1 A2 c2 ks) ((((((w7.setCell ⟨W1.heap.size,0,none⟩ (.string t1.s)).setCell ⟨W1.heap.size,1,none⟩ (.slice t1.A t1.n t1.c)).setCell ⟨W1.heap.size,2,none⟩ (.slice A1 us1.length c1)).setCell ⟨W1.heap.size,3,none⟩ (.slice A2 ks.length c2)).setCell ⟨W1.heap.size,4,none⟩ (.string ⟨#[]⟩)).setCell ⟨W1.heap.size,5,none⟩ (.slice none 0 0))):=by
        intro t1 w5 A1 c1 us1 w6 A2 c2 ks w7 hb5 hb6 hb7 q1 o1 p1 p2 p3 r1 r2 r3
        have hb46:=zb hb5 (Nat.le_refl _) hb6
        have hb47:=zb hb46 (Nat.le_refl _) hb7
        have hz5:=hb5.size
        have hz6:=hb6.size
        have hz7:=hb7.size
        have z7:=(HCELLS.out w7 hb47).2.1
        have hb37:=(HCELLS.out w7 hb47).2.2
        have hmc:Moved (fun b=>b=W1.heap.size) w7 ((((((w7.setCell ⟨W1.heap.size,0,none⟩ (.string t1.s)).setCell ⟨W1.heap.size,1,none⟩ (.slice t1.A t1.n t1.c)).setCell ⟨W1.heap.size,2,none⟩ (.slice A1 us1.length c1)).setCell ⟨W1.heap.size,3,none⟩ (.slice A2 ks.length c2)).setCell ⟨W1.heap.size,4,none⟩ (.string ⟨#[]⟩)).setCell ⟨W1.heap.size,5,none⟩ (.slice none 0 0)):=((((((Moved.refl (fun b=>b=W1.heap.size) w7).setCell (p:=⟨W1.heap.size,0,none⟩) rfl _).setCell (p:=⟨W1.heap.size,1,none⟩) rfl _).setCell (p:=⟨W1.heap.size,2,none⟩) rfl _).setCell (p:=⟨W1.heap.size,3,none⟩) rfl _).setCell (p:=⟨W1.heap.size,4,none⟩) rfl _).setCell (p:=⟨W1.heap.size,5,none⟩) rfl _
        have hst:Stays (fun b=>W1.heap.size < b) w7 ((((((w7.setCell ⟨W1.heap.size,0,none⟩ (.string t1.s)).setCell ⟨W1.heap.size,1,none⟩ (.slice t1.A t1.n t1.c)).setCell ⟨W1.heap.size,2,none⟩ (.slice A1 us1.length c1)).setCell ⟨W1.heap.size,3,none⟩ (.slice A2 ks.length c2)).setCell ⟨W1.heap.size,4,none⟩ (.string ⟨#[]⟩)).setCell ⟨W1.heap.size,5,none⟩ (.slice none 0 0)):=hmc.stays fun i _ h h2=>by omega
        have hs:=(HSHV.out _ (Below.refl _ W4)).1
        have hal:us1.length<=1048576:=by
          have h1:=congrArg List.length p3
          rw[List.length_map,List.length_map]at h1
          have h2:(zH (x.atts.map AT.ch)).length<=(x.atts.map AT.ch).length:=zdD _ _
          rw[List.length_map,hs.an]at h2
          have:=hs.am
          omega
        have hkl:ks.length<=1048576:=by
          have h1:=congrArg List.length r3.1
          rw[zx,zin,List.length_map]at h1
          have h2:=zhX (zj (chL x.kids))
          have h3:=zeb (chL x.kids)
          have:=HLT.out
          omega
        have hno:∀ {B c:Nat} {e:TypeId} {sz:Nat} {A:Option Addr} {m:Nat} {xs:List Value} {V:World},V.ownsRow B e sz (.slice A m c) m xs->A=none->c=0:=fun h h0=>by
          obtain⟨A',c',hv,h1,_,_⟩:=zg h
          injection hv with h2 _ h3
          rw[h3];exact h1 (h2 ▸ h0)
        refine⟨?_,(Moved.of_below hb37).join hmc fun _ _ h=>h,?_,?_,?_⟩
        . exact((((((z7.put 0 _).put 1 _).put 2 _).put 3 _).put 4 _).put 5 _)
        . exact(TT.inS.mk ((o1.below (zb hb6 (Nat.le_refl _) hb7)).inS) ⟨LiesS.nil _ _ _,rfl,Nat.zero_le _,Nat.zero_le _⟩ ((zdF (zO p1 hb7)).mono fun b h _=>by show W4.heap.size<=b;have:w5.heap.size<=b:=h;omega) rfl (hno p1) hal (fun a ha=>((p2.below hb7 a ha).inS).mono fun b h _=>by show W4.heap.size<=b;have:w5.heap.size<=b:=h;omega) ((zdF r1).mono fun b h _=>by show W4.heap.size<=b;have:w6.heap.size<=b:=h;omega) rfl (hno r1) hkl:(ztL t1 A1 c1 us1 A2 c2 ks).inS (fun b=>W4.heap.size<=b) w7) |>.mono (S':=fun b=>W1.heap.size < b) (fun b h _=>by have:W4.heap.size<=b:=h;show W1.heap.size < b;omega) |>.keep hst
        . exact(r2.mono (S':=fun b=>W1.heap.size < b) fun b h _=>by have:w6.heap.size<=b:=h;show W1.heap.size < b;omega).keep hst
        . refine⟨?_,r3.2.2⟩
          rw[zr4,zuW HG0.out _ HTX.out,TT.ch_tag,TT.ch_attrs,TT.ch_kids,q1,p3,r3.1]
      have hS:=HSB.out W4.drew (Below.drew (Below.refl _ _))
      gi_wp2_with fail
      clear a0 a1 a2 a3 a4 a5 a6
      refine zc6 (by kernel_rfl) rfl (zp3 fun _ _ h=>by obtain⟨h1,_⟩:=h;cases h1) ?_
      refine zbe (S:=fun V=>V.cell? ⟨w.heap.size,0,none⟩=some (.func (.func F) #[] #[])/\V.cell? ⟨W1.heap.size,0,none⟩=some (.string x.tag.s)/\V.cell? ⟨W1.heap.size,1,none⟩=some (.slice x.tag.A x.tag.n x.tag.c)/\V.cell? ⟨W1.heap.size,2,none⟩=some (.slice x.A x.n x.c)/\V.cell? ⟨W1.heap.size,3,none⟩=some (.slice x.K x.kn x.kc)/\V.cell? ⟨W1.heap.size,4,none⟩=some (.string x.text.s)/\V.cell? ⟨W1.heap.size,5,none⟩=some (.slice x.text.A x.text.n x.text.c)) (Z:=fun i=>decide (13<=i)) _ _ _ _ ?_
      refine' zc (i:=0) ?i1 (by kernel_rfl) (by kernel_rfl) (by kernel_rfl) (by kernel_rfl) ?q1 ?y1 hS ?r1
      case i1=>simp only[zlD,zlE];rfl
      case q1=>exact fun _ _ _ h=>h
      case y1=>
        refine Or.inl ⟨by rfl,?_⟩
        intro wq hq
        try dsimp only at hq
        try obtain⟨hq0,hq1,hq2,hq3,hq4,hq5,hq6⟩:=hq
        go_simp
        try with_reducible rfl
      try simp only[Act.put,zlA,zlB,zlC]
      refine' zc (i:=1) ?i2 (by kernel_rfl) (by kernel_rfl) (by kernel_rfl) (by kernel_rfl) ?q2 ?y2 hS ?r2
      case i2=>simp only[zlD,zlF,zlE];rfl
      case q2=>exact fun _ _ _ h=>h
      case y2=>
        refine Or.inl ⟨by rfl,?_⟩
        intro wq hq
        try dsimp only at hq
        try obtain⟨hq0,hq1,hq2,hq3,hq4,hq5,hq6⟩:=hq
        go_simp
        try with_reducible rfl
      try simp only[Act.put,zlA,zlB,zlC]
      refine' zc (i:=2) ?i3 (by kernel_rfl) (by kernel_rfl) (by kernel_rfl) (by kernel_rfl) ?q3 ?y3 hS ?r3
      case i3=>simp only[zlD,zlF,zlE];rfl
      case q3=>exact fun _ _ _ h=>h
      case y3=>
        refine Or.inl ⟨by rfl,?_⟩
        intro wq hq
        try dsimp only at hq
        try obtain⟨hq0,hq1,hq2,hq3,hq4,hq5,hq6⟩:=hq
        go_simp
        try with_reducible rfl
      try simp only[Act.put,zlA,zlB,zlC]
      refine' zc (i:=4) ?i4 (by kernel_rfl) (by kernel_rfl) (by kernel_rfl) (by kernel_rfl) ?q4 ?y4 hS ?r4
      case i4=>simp only[zlD,zlF,zlE];rfl
      case q4=>exact fun _ _ _ h=>h
      case y4=>
        refine Or.inl ⟨by rfl,?_⟩
        intro wq hq
        try dsimp only at hq
        try obtain⟨hq0,hq1,hq2,hq3,hq4,hq5,hq6⟩:=hq
        go_simp
        try with_reducible rfl
      try simp only[Act.put,zlA,zlB,zlC]
      refine' zc (i:=5) ?i5 (by kernel_rfl) (by kernel_rfl) (by kernel_rfl) (by kernel_rfl) ?q5 ?y5 hS ?r5
      case i5=>simp only[zlD,zlF,zlE];rfl
      case q5=>exact fun _ _ _ h=>h
      case y5=>
        refine Or.inl ⟨by rfl,?_⟩
        intro wq hq
        try dsimp only at hq
        try obtain⟨hq0,hq1,hq2,hq3,hq4,hq5,hq6⟩:=hq
        go_simp
        try with_reducible rfl
      try simp only[Act.put,zlA,zlB,zlC]
      refine' zc (i:=6) ?i6 (by kernel_rfl) (by kernel_rfl) (by kernel_rfl) (by kernel_rfl) ?q6 ?y6 hS ?r6
      case i6=>simp only[zlD,zlF,zlE];rfl
      case q6=>exact fun _ _ _ h=>h
      case y6=>
        refine Or.inl ⟨by rfl,?_⟩
        intro wq hq
        try dsimp only at hq
        try obtain⟨hq0,hq1,hq2,hq3,hq4,hq5,hq6⟩:=hq
        go_simp
        try with_reducible rfl
      try simp only[Act.put,zlA,zlB,zlC]
      refine' zc (i:=8) ?i7 (by kernel_rfl) (by kernel_rfl) (by kernel_rfl) (by kernel_rfl) ?q7 ?y7 hS ?r7
      case i7=>simp only[zlD,zlF,zlE];rfl
      case q7=>exact fun _ _ _ h=>h
      case y7=>
        refine Or.inl ⟨by rfl,?_⟩
        intro wq hq
        try dsimp only at hq
        try obtain⟨hq0,hq1,hq2,hq3,hq4,hq5,hq6⟩:=hq
        go_simp
        try with_reducible rfl
      try simp only[Act.put,zlA,zlB,zlC]
      refine' zc (i:=9) ?i8 (by kernel_rfl) (by kernel_rfl) (by kernel_rfl) (by kernel_rfl) ?q8 ?y8 hS ?r8
      case i8=>simp only[zlD,zlF,zlE];rfl
      case q8=>exact fun _ _ _ h=>h
      case y8=>
        refine Or.inl ⟨by rfl,?_⟩
        intro wq hq
        try dsimp only at hq
        try obtain⟨hq0,hq1,hq2,hq3,hq4,hq5,hq6⟩:=hq
        go_simp
        try with_reducible rfl
      try simp only[Act.put,zlA,zlB,zlC]
      refine' zc (i:=10) ?i9 (by kernel_rfl) (by kernel_rfl) (by kernel_rfl) (by kernel_rfl) ?q9 ?y9 hS ?r9
      case i9=>simp only[zlD,zlF,zlE];rfl
      case q9=>exact fun _ _ _ h=>h
      case y9=>
        refine Or.inl ⟨by rfl,?_⟩
        intro wq hq
        try dsimp only at hq
        try obtain⟨hq0,hq1,hq2,hq3,hq4,hq5,hq6⟩:=hq
        go_simp
        try with_reducible rfl
      try simp only[Act.put,zlA,zlB,zlC]
      refine za (rs:=[3]) (by kernel_rfl) (by simp) ?_
      refine' ReadyL.cons ?o10 (fun K hK=>?s10) ReadyL.nil
      case o10=>simp only[zlD,zlF,zlE];rfl
      refine zcE _ rfl _ _ _ rfl F rfl HF.out.enters (.agg #[.string x.tag.s,.slice x.tag.A x.tag.n x.tag.c]) rfl (HCT.out _ (Below.drew (Below.refl _ _))) ?_
      rintro e w5 ⟨t1,rfl,h1,hb5⟩
      refine⟨_,rfl,?_⟩
      have hbA:Below W4.heap.size W4 w5:=(Below.drew (Below.refl _ W4)).trans hb5
      refine hK.out _ _ (.inr (HSB.out _ hbA)) ?_
      clear hK K hS
      have hS:=HSB.out _ hbA
      try simp only[Act.put,zlA,zlB,zlC]
      refine za (rs:=[7]) (by kernel_rfl) (by simp) ?_
      refine' ReadyL.cons ?o11 (fun K hK=>?s11) ReadyL.nil
      case o11=>simp only[zlD,zlF,zlE];rfl
      go_simp
      refine(HCA.out _ hbA).mono ?_
      rintro e w6 ⟨A1,c1,us1,rfl,p1,p2,p3,hb6⟩
      have hbB:Below W4.heap.size W4 w6:=zb hbA (Nat.le_refl _) hb6
      refine hK.out _ _ (.inr (HSB.out _ hbB)) ?_
      clear hK K hS
      have hS:=HSB.out _ hbB
      try simp only[Act.put,zlA,zlB,zlC]
      refine za (rs:=[11]) (by kernel_rfl) (by simp) ?_
      refine' ReadyL.cons ?o12 (fun K hK=>?s12) ReadyL.nil
      case o12=>simp only[zlD,zlF,zlE];rfl
      go_simp
      refine(HCK.out _ hbB).mono ?_
      rintro e w7 ⟨A2,c2,ks,rfl,r1,r2,r3,hb7⟩
      have hbC:Below W4.heap.size W4 w7:=zb hbB (Nat.le_refl _) hb7
      refine hK.out _ _ (.inr (HSB.out _ hbC)) ?_
      clear hK K hS
      have hS:=HSB.out _ hbC
      try simp only[Act.put,zlA,zlB,zlC]
      refine za (rs:=[12]) (by kernel_rfl) (by simp) ?_
      refine' ReadyL.cons ?o13 (fun K hK=>?s13) ReadyL.nil
      case o13=>simp only[zlD,zlF,zlE];rfl
      go_simp
      refine hK.out _ _ (.inr hS) ?_
      clear hK K
      try simp only[Act.put,zlA,zlB,zlC]
      refine za (rs:=[13]) (by kernel_rfl) (by simp) ?_
      refine' ReadyL.cons ?o14 (fun K hK=>?s14) ReadyL.nil
      case o14=>simp only[zlD,zlF,zlE];rfl
      obtain⟨hs0,hs1,hs2,hs3,hs4,hs5,hs6⟩:=hS
      obtain⟨g0,g1,g2,g3,g4,g5⟩:=HFR.out _ hbC
      go_simp
      refine hK.out _ _ (.inl (by decide)) ?_
      clear hK K hs0 hs1 hs2 hs3 hs4 hs5 hs6 g0 g1 g2 g3 g4 g5
      try simp only[Act.put,zlA,zlB,zlC]
      refine zi (by kernel_rfl) ?_ _
      have HT6:=Lib.hid (HEL.out t1 w5 A1 c1 us1 w6 A2 c2 ks w7 hbA hb6 hb7 h1.out.1 h1.out.2 p1 p2 p3 r1 r2 r3)
      clear hbA hbB hbC hb5 hb6 hb7 h1 p1 p2 p3 r1 r2 r3
      generalize hW6:((((((w7.setCell ⟨W1.heap.size,0,none⟩ (.string t1.s)).setCell ⟨W1.heap.size,1,none⟩ (.slice t1.A t1.n t1.c)).setCell ⟨W1.heap.size,2,none⟩ (.slice A1 us1.length c1)).setCell ⟨W1.heap.size,3,none⟩ (.slice A2 ks.length c2)).setCell ⟨W1.heap.size,4,none⟩ (.string ⟨#[]⟩)).setCell ⟨W1.heap.size,5,none⟩ (.slice none 0 0))=W6 at HT6 ⊢
      clear hW6
      obtain⟨T,HT7⟩:∃ T,Hid (zkS g W1 W3 x T W6):=⟨_,HT6⟩
      have hz36:=HT7.out.2.1.size
      have HOWN6:Hid ((W6.drew.alloc (.cells #[.string ⟨#[]⟩,.slice none 0 0,.slice none 0 0,.slice none 0 0,.string ⟨#[]⟩,.slice none 0 0] 48)).ownsRow w4.heap.size 48 6 (.slice A5 z c5) z (zf us)):=(HT7.out.2.1.own HOWN3.out (fun i hi h=>by have:=(HKL.out i (HG.out i hi)).2;omega)).alloc _
      have HSB7:Hid (∀ V,Below W6.heap.size W6 V->V.cell? ⟨w.heap.size+1,0,none⟩=some (.slice A5 z c5)/\V.cell? ⟨W1.heap.size,0,none⟩=some (.string T.tag.s)/\V.cell? ⟨W1.heap.size,1,none⟩=some (.slice T.tag.A T.tag.n T.tag.c)/\V.cell? ⟨W1.heap.size,2,none⟩=some (.slice T.A T.n T.c)/\V.cell? ⟨W1.heap.size,3,none⟩=some (.slice T.K T.kn T.kc)/\V.cell? ⟨W1.heap.size,4,none⟩=some (.string T.text.s)/\V.cell? ⟨W1.heap.size,5,none⟩=some (.slice T.text.A T.text.n T.text.c)):=fun V h=>by
        have y:=(HT7.out.2.1.whole HV3.out (fun h=>by omega)).below h (by have:=HV3.out.lt;omega)
        have zt:=HT7.out.1.below h HT7.out.1.lt
        exact⟨y.at_ 0,zt.at_ 0,zt.at_ 1,zt.at_ 2,zt.at_ 3,zt.at_ 4,zt.at_ 5⟩
      have HS7:Hid (∀ V,(W6.drew.alloc (.cells #[.string ⟨#[]⟩,.slice none 0 0,.slice none 0 0,.slice none 0 0,.string ⟨#[]⟩,.slice none 0 0] 48)).grownBy V (Value.slice A5 z c5).ownBlock->V.cell? ⟨w.heap.size+1,0,none⟩=some (.slice A5 z c5)/\V.cell? ⟨W1.heap.size,0,none⟩=some (.string T.tag.s)/\V.cell? ⟨W1.heap.size,1,none⟩=some (.slice T.tag.A T.tag.n T.tag.c)/\V.cell? ⟨W1.heap.size,2,none⟩=some (.slice T.A T.n T.c)/\V.cell? ⟨W1.heap.size,3,none⟩=some (.slice T.K T.kn T.kc)/\V.cell? ⟨W1.heap.size,4,none⟩=some (.string T.text.s)/\V.cell? ⟨W1.heap.size,5,none⟩=some (.slice T.text.A T.text.n T.text.c)):=fun V h=>by
        have y:=((HT7.out.2.1.whole HV3.out (fun h=>by omega)).drew.alloc _).grown h (fun h=>by have:=(HOWN3.out.lt _ h.symm).1;omega)
        have zt:=(HT7.out.1.drew.alloc _).grown h (fun h=>by have:=(HKL.out _ (HG.out _ h.symm)).2;omega)
        exact⟨y.at_ 0,zt.at_ 0,zt.at_ 1,zt.at_ 2,zt.at_ 3,zt.at_ 4,zt.at_ 5⟩
      have HG7':Hid (∀ (g7:Nat) (w7:World) (d7:Nat) (o:Obj),w7.ownsRow w4.heap.size 48 6 (.slice (some ⟨g7,0,none⟩) (z+1) d7) (z+1) (zf us++ zk zeroTT)->(W6.drew.alloc o).grownBy w7 (Value.slice A5 z c5).ownBlock->((Value.slice (some ⟨g7,0,none⟩) (z+1) d7).ownBlock=(Value.slice A5 z c5).ownBlock\/(Value.slice (some ⟨g7,0,none⟩) (z+1) d7).ownBlock=some (W6.drew.alloc o).heap.size)->((w7.cell? ⟨g7,z * 6,none⟩=some (.string zeroTT.tag.s)/\w7.cell? ⟨g7,z * 6+1,none⟩=some (.slice zeroTT.tag.A zeroTT.tag.n zeroTT.tag.c)/\w7.cell? ⟨g7,z * 6+2,none⟩=some (.slice zeroTT.A zeroTT.n zeroTT.c)/\w7.cell? ⟨g7,z * 6+3,none⟩=some (.slice zeroTT.K zeroTT.kn zeroTT.kc)/\w7.cell? ⟨g7,z * 6+4,none⟩=some (.string zeroTT.text.s)/\w7.cell? ⟨g7,z * 6+5,none⟩=some (.slice zeroTT.text.A zeroTT.text.n zeroTT.text.c)/\w7.frozen? ⟨g7,z * 6,none⟩=false/\w7.frozen? ⟨g7,z * 6+1,none⟩=false/\w7.frozen? ⟨g7,z * 6+2,none⟩=false/\w7.frozen? ⟨g7,z * 6+3,none⟩=false/\w7.frozen? ⟨g7,z * 6+4,none⟩=false/\w7.frozen? ⟨g7,z * 6+5,none⟩=false)/\(w7.cell? ⟨w.heap.size+1,0,none⟩=some (.slice A5 z c5)/\w7.frozen? ⟨w.heap.size+1,0,none⟩=false)/\(((((((w7.setCell ⟨g7,z * 6,none⟩ (.string T.tag.s)).setCell ⟨g7,z * 6+1,none⟩ (.slice T.tag.A T.tag.n T.tag.c)).setCell ⟨g7,z * 6+2,none⟩ (.slice T.A T.n T.c)).setCell ⟨g7,z * 6+3,none⟩ (.slice T.K T.kn T.kc)).setCell ⟨g7,z * 6+4,none⟩ (.string T.text.s)).setCell ⟨g7,z * 6+5,none⟩ (.slice T.text.A T.text.n T.text.c)).cell? ⟨w.heap.size+1,0,none⟩=some (.slice A5 z c5)/\((((((w7.setCell ⟨g7,z * 6,none⟩ (.string T.tag.s)).setCell ⟨g7,z * 6+1,none⟩ (.slice T.tag.A T.tag.n T.tag.c)).setCell ⟨g7,z * 6+2,none⟩ (.slice T.A T.n T.c)).setCell ⟨g7,z * 6+3,none⟩ (.slice T.K T.kn T.kc)).setCell ⟨g7,z * 6+4,none⟩ (.string T.text.s)).setCell ⟨g7,z * 6+5,none⟩ (.slice T.text.A T.text.n T.text.c)).frozen? ⟨w.heap.size+1,0,none⟩=false))/\(∀ u,(w7.setCell ⟨w.heap.size+1,0,none⟩ u).cell? ⟨g7,z * 6,none⟩=some (.string zeroTT.tag.s)/\(w7.setCell ⟨w.heap.size+1,0,none⟩ u).cell? ⟨g7,z * 6+1,none⟩=some (.slice zeroTT.tag.A zeroTT.tag.n zeroTT.tag.c)/\(w7.setCell ⟨w.heap.size+1,0,none⟩ u).cell? ⟨g7,z * 6+2,none⟩=some (.slice zeroTT.A zeroTT.n zeroTT.c)/\(w7.setCell ⟨w.heap.size+1,0,none⟩ u).cell? ⟨g7,z * 6+3,none⟩=some (.slice zeroTT.K zeroTT.kn zeroTT.kc)/\(w7.setCell ⟨w.heap.size+1,0,none⟩ u).cell? ⟨g7,z * 6+4,none⟩=some (.string zeroTT.text.s)/\(w7.setCell ⟨w.heap.size+1,0,none⟩ u).cell? ⟨g7,z * 6+5,none⟩=some (.slice zeroTT.text.A zeroTT.text.n zeroTT.text.c)/\(w7.setCell ⟨w.heap.size+1,0,none⟩ u).frozen? ⟨g7,z * 6,none⟩=false/\(w7.setCell ⟨w.heap.size+1,0,none⟩ u).frozen? ⟨g7,z * 6+1,none⟩=false/\(w7.setCell ⟨w.heap.size+1,0,none⟩ u).frozen? ⟨g7,z * 6+2,none⟩=false/\(w7.setCell ⟨w.heap.size+1,0,none⟩ u).frozen? ⟨g7,z * 6+3,none⟩=false/\(w7.setCell ⟨w.heap.size+1,0,none⟩ u).frozen? ⟨g7,z * 6+4,none⟩=false/\(w7.setCell ⟨w.heap.size+1,0,none⟩ u).frozen? ⟨g7,z * 6+5,none⟩=false)/\(∃ K',zio g (w.heap.size+1) w4 (pre++ [x]) K' (((((((w7.setCell ⟨g7,z * 6,none⟩ (.string T.tag.s)).setCell ⟨g7,z * 6+1,none⟩ (.slice T.tag.A T.tag.n T.tag.c)).setCell ⟨g7,z * 6+2,none⟩ (.slice T.A T.n T.c)).setCell ⟨g7,z * 6+3,none⟩ (.slice T.K T.kn T.kc)).setCell ⟨g7,z * 6+4,none⟩ (.string T.text.s)).setCell ⟨g7,z * 6+5,none⟩ (.slice T.text.A T.text.n T.text.c)).setCell ⟨w.heap.size+1,0,none⟩ (.slice (some ⟨g7,0,none⟩) (z+1) d7))/\(∀ b,K' b->K b\/G b\/(W1.heap.size<=b/\b < (((((((w7.setCell ⟨g7,z * 6,none⟩ (.string T.tag.s)).setCell ⟨g7,z * 6+1,none⟩ (.slice T.tag.A T.tag.n T.tag.c)).setCell ⟨g7,z * 6+2,none⟩ (.slice T.A T.n T.c)).setCell ⟨g7,z * 6+3,none⟩ (.slice T.K T.kn T.kc)).setCell ⟨g7,z * 6+4,none⟩ (.string T.text.s)).setCell ⟨g7,z * 6+5,none⟩ (.slice T.text.A T.text.n T.text.c)).setCell ⟨w.heap.size+1,0,none⟩ (.slice (some ⟨g7,0,none⟩) (z+1) d7)).heap.size))/\Moved (fun b=>K b\/G b\/W1.heap.size<=b) W3 (((((((w7.setCell ⟨g7,z * 6,none⟩ (.string T.tag.s)).setCell ⟨g7,z * 6+1,none⟩ (.slice T.tag.A T.tag.n T.tag.c)).setCell ⟨g7,z * 6+2,none⟩ (.slice T.A T.n T.c)).setCell ⟨g7,z * 6+3,none⟩ (.slice T.K T.kn T.kc)).setCell ⟨g7,z * 6+4,none⟩ (.string T.text.s)).setCell ⟨g7,z * 6+5,none⟩ (.slice T.text.A T.text.n T.text.c)).setCell ⟨w.heap.size+1,0,none⟩ (.slice (some ⟨g7,0,none⟩) (z+1) d7)))/\(∃ K',zio g (w.heap.size+1) w4 (pre++ [x]) K' (((((((w7.setCell ⟨w.heap.size+1,0,none⟩ (.slice (some ⟨g7,0,none⟩) (z+1) d7)).setCell ⟨g7,z * 6,none⟩ (.string T.tag.s)).setCell ⟨g7,z * 6+1,none⟩ (.slice T.tag.A T.tag.n T.tag.c)).setCell ⟨g7,z * 6+2,none⟩ (.slice T.A T.n T.c)).setCell ⟨g7,z * 6+3,none⟩ (.slice T.K T.kn T.kc)).setCell ⟨g7,z * 6+4,none⟩ (.string T.text.s)).setCell ⟨g7,z * 6+5,none⟩ (.slice T.text.A T.text.n T.text.c))/\(∀ b,K' b->K b\/G b\/(W1.heap.size<=b/\b < (((((((w7.setCell ⟨w.heap.size+1,0,none⟩ (.slice (some ⟨g7,0,none⟩) (z+1) d7)).setCell ⟨g7,z * 6,none⟩ (.string T.tag.s)).setCell ⟨g7,z * 6+1,none⟩ (.slice T.tag.A T.tag.n T.tag.c)).setCell ⟨g7,z * 6+2,none⟩ (.slice T.A T.n T.c)).setCell ⟨g7,z * 6+3,none⟩ (.slice T.K T.kn T.kc)).setCell ⟨g7,z * 6+4,none⟩ (.string T.text.s)).setCell ⟨g7,z * 6+5,none⟩ (.slice T.text.A T.text.n T.text.c)).heap.size))/\Moved (fun b=>K b\/G b\/W1.heap.size<=b) W3 (((((((w7.setCell ⟨w.heap.size+1,0,none⟩ (.slice (some ⟨g7,0,none⟩) (z+1) d7)).setCell ⟨g7,z * 6,none⟩ (.string T.tag.s)).setCell ⟨g7,z * 6+1,none⟩ (.slice T.tag.A T.tag.n T.tag.c)).setCell ⟨g7,z * 6+2,none⟩ (.slice T.A T.n T.c)).setCell ⟨g7,z * 6+3,none⟩ (.slice T.K T.kn T.kc)).setCell ⟨g7,z * 6+4,none⟩ (.string T.text.s)).setCell ⟨g7,z * 6+5,none⟩ (.slice T.text.A T.text.n T.text.c)))):=fun g7 w7 d7 o q1 q2 q3=>HG7.out T W6.drew w7 d7 g7 o (zjN HT7.out) q1 q2 q3
      have hS:=HSB7.out W6.drew (Below.drew (Below.refl _ _))
      clear HT6
      gi_wp2_with fail
      refine zc6 (by kernel_rfl) rfl (zfg fun _ _ h=>by obtain⟨h1,_⟩:=h;cases h1) ?_
      refine zbe (S:=fun V=>V.cell? ⟨w.heap.size+1,0,none⟩=some (.slice A5 z c5)/\V.cell? ⟨W1.heap.size,0,none⟩=some (.string T.tag.s)/\V.cell? ⟨W1.heap.size,1,none⟩=some (.slice T.tag.A T.tag.n T.tag.c)/\V.cell? ⟨W1.heap.size,2,none⟩=some (.slice T.A T.n T.c)/\V.cell? ⟨W1.heap.size,3,none⟩=some (.slice T.K T.kn T.kc)/\V.cell? ⟨W1.heap.size,4,none⟩=some (.string T.text.s)/\V.cell? ⟨W1.heap.size,5,none⟩=some (.slice T.text.A T.text.n T.text.c)) (Z:=fun i=>decide (5<=i)) _ _ _ _ ?_
      refine' zc (i:=0) ?i15 (by kernel_rfl) (by kernel_rfl) (by kernel_rfl) (by kernel_rfl) ?q15 ?y15 hS ?r15
      case i15=>simp only[zlD,zlE];rfl
      case q15=>exact fun _ _ _ h=>h
      case y15=>
        refine Or.inl ⟨by rfl,?_⟩
        intro wq hq
        try dsimp only at hq
        try obtain⟨hq0,hq1,hq2,hq3,hq4,hq5,hq6⟩:=hq
        go_simp
        try with_reducible rfl
      try simp only[Act.put,zlA,zlB,zlC]
      refine' zc (i:=1) ?i16 (by kernel_rfl) (by kernel_rfl) (by kernel_rfl) (by kernel_rfl) ?q16 ?y16 hS ?r16
      case i16=>simp only[zlD,zlF,zlE];rfl
      case q16=>exact fun _ _ _ h=>h
      case y16=>
        refine Or.inl ⟨by rfl,?_⟩
        intro wq hq
        try dsimp only at hq
        try obtain⟨hq0,hq1,hq2,hq3,hq4,hq5,hq6⟩:=hq
        go_simp
        try with_reducible rfl
      try simp only[Act.put,zlA,zlB,zlC]
      refine' zc (i:=2) ?i17 (by kernel_rfl) (by kernel_rfl) (by kernel_rfl) (by kernel_rfl) ?q17 ?y17 hS ?r17
      case i17=>simp only[zlD,zlF,zlE];rfl
      case q17=>exact fun _ _ _ h=>h
      case y17=>
        refine Or.inl ⟨by rfl,?_⟩
        intro wq hq
        try dsimp only at hq
        try obtain⟨hq0,hq1,hq2,hq3,hq4,hq5,hq6⟩:=hq
        go_simp
        try with_reducible rfl
      try simp only[Act.put,zlA,zlB,zlC]
      refine za (rs:=[3]) (by kernel_rfl) (by simp) ?_
      refine' ReadyL.cons ?o18 (fun K hK=>?s18) ReadyL.nil
      case o18=>simp only[zlD,zlF,zlE];rfl
      go_simp
      refine hK.out _ _ (.inr (HSB7.out _ ((Below.drew (Below.refl W6.heap.size W6)).alloc (Nat.le_refl _) _))) ?_
      clear hK K hS
      try simp only[Act.put,zlA,zlB,zlC]
      refine za (rs:=[4]) (by kernel_rfl) (by simp) ?_
      refine' ReadyL.cons ?o19 (fun K hK=>?s19) ReadyL.nil
      case o19=>simp only[zlD,zlF,zlE];rfl
      refine zR _ rfl _ _ 27 rfl w4.heap.size 48 i0 _ 6 128 Tryz.underlying27 hi hiz0 hiz1 hiz2 rfl (by decide) (.slice A5 z c5) z (zf us) rfl HOWN6.out (W6.heap.size+1) (some ⟨W6.heap.size,0,none⟩) 1 1 (zk zeroTT) rfl (by simp) rfl (zmc W6.drew _ _) (zbt _) (by simp only[maxLen];omega) (by omega) (by simp;omega) ?_
      intro v' w7 hown7 hgr hv'
      obtain⟨A7,d7,rfl,_,_,_⟩:=zg hown7
      obtain⟨g7,rfl⟩:∃ g7,A7=some ⟨g7,0,none⟩:=zl9 hown7 (Nat.succ_pos _)
      have HGO:=Lib.hid (HG7'.out g7 w7 d7 _ hown7 hgr hv')
      have HGA:=Lib.hid HGO.out.1.1
      have HGB:=Lib.hid HGO.out.1.2.1
      have HGC:=Lib.hid HGO.out.1.2.2
      have HGD:=Lib.hid HGO.out.2.1
      have HGE:=Lib.hid HGO.out.2.2.1
      have HGF:=Lib.hid HGO.out.2.2.2
      clear HGO HG7'
      have hS7:=HS7.out _ hgr
      refine hK.out _ _ (.inr hS7) ?_
      clear hK K
      try simp only[Act.put,zlA,zlB,zlC]
      have hk0:(0:Int)<=(z:Int):=Int.natCast_nonneg _
      have hk1:(z:Int) < ((z+1:Nat):Int):=by omega
      have hk2:(z:Int) < (z:Int)+1:=by omega
      refine za (rs:=[5,7]) (by kernel_rfl) (by simp) ?_
      refine' ReadyL.cons ?o20 (fun K hK=>?s20) ?m20
      case o20=>simp only[zlD,zlF,zlE];rfl
      case s20=>
        go_simp
        refine hK.out _ _ (.inl (by decide)) ?_
        clear hK K
        try simp only[Act.put,zlA,zlB,zlC]
        refine za (rs:=[6,7]) (by kernel_rfl) (by simp) ?_
        refine' ReadyL.cons ?o21 (fun K hK=>?s21) ?m21
        case o21=>simp only[zlD,zlF,zlE];rfl
        case s21=>
          obtain⟨k0,k1,k2,k3,k4,k5,f0,f1,f2,f3,f4,f5⟩:=HGA.out
          go_simp
          refine hK.out _ _ (.inl (by decide)) ?_
          clear k0 k1 k2 k3 k4 k5 f0 f1 f2 f3 f4 f5
          clear hK K
          try simp only[Act.put,zlA,zlB,zlC]
          refine za (rs:=[7]) (by kernel_rfl) (by simp) ?_
          refine' ReadyL.cons ?o22 (fun K hK=>?s22) ReadyL.nil
          case o22=>simp only[zlD,zlF,zlE];rfl
          have k6:=HGC.out.1
          have f6:=HGC.out.2
          go_simp
          refine hK.out _ _ (.inl (by decide)) ?_
          clear k6 f6
          clear hK K
          try simp only[Act.put,zlA,zlB,zlC]
          refine zi (by kernel_rfl) ?_ _
          refine⟨rfl,?_⟩
          obtain⟨K9,q1,q2,q3⟩:=HGE.out
          exact⟨K9,q1,fun b h=>(q2 b h).imp id fun h=>h.imp id fun h=>⟨h.1,by simpa [World.setCell]using h.2⟩,q3⟩
        refine' ReadyL.cons ?o23 (fun K hK=>?s23) ReadyL.nil
        case o23=>simp only[zlD,zlF,zlE];rfl
        have k6:=HGB.out.1
        have f6:=HGB.out.2
        go_simp
        refine hK.out _ _ (.inl (by decide)) ?_
        clear k6 f6
        clear hK K
        try simp only[Act.put,zlA,zlB,zlC]
        refine za (rs:=[6]) (by kernel_rfl) (by simp) ?_
        refine' ReadyL.cons ?o24 (fun K hK=>?s24) ReadyL.nil
        case o24=>simp only[zlD,zlF,zlE];rfl
        obtain⟨k0,k1,k2,k3,k4,k5,f0,f1,f2,f3,f4,f5⟩:=HGD.out (.slice (some ⟨g7,0,none⟩) (z+1) d7)
        go_simp
        refine hK.out _ _ (.inl (by decide)) ?_
        clear k0 k1 k2 k3 k4 k5 f0 f1 f2 f3 f4 f5
        clear hK K
        try simp only[Act.put,zlA,zlB,zlC]
        refine zi (by kernel_rfl) ?_ _
        refine⟨rfl,?_⟩
        obtain⟨K9,q1,q2,q3⟩:=HGF.out
        exact⟨K9,q1,fun b h=>(q2 b h).imp id fun h=>h.imp id fun h=>⟨h.1,by simpa [World.setCell]using h.2⟩,q3⟩
      refine' ReadyL.cons ?o25 (fun K hK=>?s25) ReadyL.nil
      case o25=>simp only[zlD,zlF,zlE];rfl
      have k6:=HGB.out.1
      have f6:=HGB.out.2
      go_simp
      refine hK.out _ _ (.inl (by decide)) ?_
      clear k6 f6
      clear hK K
      try simp only[Act.put,zlA,zlB,zlC]
      refine za (rs:=[5]) (by kernel_rfl) (by simp) ?_
      refine' ReadyL.cons ?o26 (fun K hK=>?s26) ReadyL.nil
      case o26=>simp only[zlD,zlF,zlE];rfl
      go_simp
      refine hK.out _ _ (.inl (by decide)) ?_
      clear hK K
      try simp only[Act.put,zlA,zlB,zlC]
      refine za (rs:=[6]) (by kernel_rfl) (by simp) ?_
      refine' ReadyL.cons ?o27 (fun K hK=>?s27) ReadyL.nil
      case o27=>simp only[zlD,zlF,zlE];rfl
      obtain⟨k0,k1,k2,k3,k4,k5,f0,f1,f2,f3,f4,f5⟩:=HGD.out (.slice (some ⟨g7,0,none⟩) (z+1) d7)
      go_simp
      refine hK.out _ _ (.inl (by decide)) ?_
      clear k0 k1 k2 k3 k4 k5 f0 f1 f2 f3 f4 f5
      clear hK K
      try simp only[Act.put,zlA,zlB,zlC]
      refine zi (by kernel_rfl) ?_ _
      refine⟨rfl,?_⟩
      obtain⟨K9,q1,q2,q3⟩:=HGF.out
      exact⟨K9,q1,fun b h=>(q2 b h).imp id fun h=>h.imp id fun h=>⟨h.1,by simpa [World.setCell]using h.2⟩,q3⟩
    | false=>
      have HTG:Hid (x.ch=txT x.text.ch):=by
        have h1:x.ch.tag=[]:=by
          rw[TT.ch_tag]
          have h2:=hel
          unfold elB at h2
          simpa using h2
        have h3:=(HOS.out.1 h1).1
        rw[TT.ch_text]at h3
        exact h3
      clear hel
      have HEL:Hid (∀ (t1:LT) (w7:World),Below W4.heap.size W4 w7->t1.ch=g x.text.ch->OwnL w7 W4.heap.size t1->zkS g W1 W3 x (txTT t1) ((((((w7.setCell ⟨W1.heap.size,0,none⟩ (.string ⟨#[]⟩)).setCell ⟨W1.heap.size,1,none⟩ (.slice none 0 0)).setCell ⟨W1.heap.size,2,none⟩ (.slice none 0 0)).setCell ⟨W1.heap.size,3,none⟩ (.slice none 0 0)).setCell ⟨W1.heap.size,4,none⟩ (.string t1.s)).setCell ⟨W1.heap.size,5,none⟩ (.slice t1.A t1.n t1.c))):=by
        intro t1 w7 hb47 q1 o1
        have z7:=(HCELLS.out w7 hb47).2.1
        have hb37:=(HCELLS.out w7 hb47).2.2
        have hmc:Moved (fun b=>b=W1.heap.size) w7 ((((((w7.setCell ⟨W1.heap.size,0,none⟩ (.string ⟨#[]⟩)).setCell ⟨W1.heap.size,1,none⟩ (.slice none 0 0)).setCell ⟨W1.heap.size,2,none⟩ (.slice none 0 0)).setCell ⟨W1.heap.size,3,none⟩ (.slice none 0 0)).setCell ⟨W1.heap.size,4,none⟩ (.string t1.s)).setCell ⟨W1.heap.size,5,none⟩ (.slice t1.A t1.n t1.c)):=((((((Moved.refl (fun b=>b=W1.heap.size) w7).setCell (p:=⟨W1.heap.size,0,none⟩) rfl _).setCell (p:=⟨W1.heap.size,1,none⟩) rfl _).setCell (p:=⟨W1.heap.size,2,none⟩) rfl _).setCell (p:=⟨W1.heap.size,3,none⟩) rfl _).setCell (p:=⟨W1.heap.size,4,none⟩) rfl _).setCell (p:=⟨W1.heap.size,5,none⟩) rfl _
        have hst:Stays (fun b=>W1.heap.size < b) w7 ((((((w7.setCell ⟨W1.heap.size,0,none⟩ (.string ⟨#[]⟩)).setCell ⟨W1.heap.size,1,none⟩ (.slice none 0 0)).setCell ⟨W1.heap.size,2,none⟩ (.slice none 0 0)).setCell ⟨W1.heap.size,3,none⟩ (.slice none 0 0)).setCell ⟨W1.heap.size,4,none⟩ (.string t1.s)).setCell ⟨W1.heap.size,5,none⟩ (.slice t1.A t1.n t1.c)):=hmc.stays fun i _ h h2=>by omega
        refine⟨?_,(Moved.of_below hb37).join hmc fun _ _ h=>h,?_,AllS.nil _ _,?_⟩
        . exact((((((z7.put 0 _).put 1 _).put 2 _).put 3 _).put 4 _).put 5 _)
        . have hx:t1.inS (fun b=>W1.heap.size < b) w7:=o1.inS.mono fun b h _=>by have:W4.heap.size<=b:=h;show W1.heap.size < b;omega
          exact⟨⟨LiesS.nil _ _ _,rfl,Nat.zero_le _,Nat.zero_le _⟩,hx.keep hst,LiesS.nil _ _ _,rfl,fun _=>rfl,Nat.zero_le _,(by intro a ha;cases ha),LiesS.nil _ _ _,rfl,fun _=>rfl,Nat.zero_le _⟩
        . refine⟨?_,fun _=>⟨rfl,rfl⟩⟩
          rw[zkK,HTG.out,zuV HG0.out,q1]
      gi_wp2_with fail
      rw[HF.out.enters,Oper.uponIn_enter]
      refine⟨(fun hd=>by cases hd),CallsIn.inRound l (callsIn_wide.2 ((HF.out.tells x.text W4 (HSHV.out W4 (Below.refl _ _)).1.text.ok).mono ?_))⟩
      rintro e w7 ⟨t1,rfl,h1,hb7⟩
      clear a0 a1 a2 a3 a4 a5 a6
      obtain⟨a0,a1,a2,a3,a4,a5,a6⟩:=HSB.out w7 hb7
      obtain⟨g0,g1,g2,g3,g4,g5⟩:=HFR.out w7 hb7
      have HT6:=Lib.hid (HEL.out t1 w7 hb7 h1.out.1 h1.out.2)
      generalize hW6:((((((w7.setCell ⟨W1.heap.size,0,none⟩ (.string ⟨#[]⟩)).setCell ⟨W1.heap.size,1,none⟩ (.slice none 0 0)).setCell ⟨W1.heap.size,2,none⟩ (.slice none 0 0)).setCell ⟨W1.heap.size,3,none⟩ (.slice none 0 0)).setCell ⟨W1.heap.size,4,none⟩ (.string t1.s)).setCell ⟨W1.heap.size,5,none⟩ (.slice t1.A t1.n t1.c))=W6 at HT6
      clear hb7 h1
      gi_wp2_with fail
      clear a0 a1 a2 a3 a4 a5 a6 g0 g1 g2 g3 g4 g5
      obtain⟨T,HT7⟩:∃ T,Hid (zkS g W1 W3 x T W6):=⟨_,HT6⟩
      have hz36:=HT7.out.2.1.size
      have HOWN6:Hid ((W6.drew.alloc (.cells #[.string ⟨#[]⟩,.slice none 0 0,.slice none 0 0,.slice none 0 0,.string ⟨#[]⟩,.slice none 0 0] 48)).ownsRow w4.heap.size 48 6 (.slice A5 z c5) z (zf us)):=(HT7.out.2.1.own HOWN3.out (fun i hi h=>by have:=(HKL.out i (HG.out i hi)).2;omega)).alloc _
      have HSB7:Hid (∀ V,Below W6.heap.size W6 V->V.cell? ⟨w.heap.size+1,0,none⟩=some (.slice A5 z c5)/\V.cell? ⟨W1.heap.size,0,none⟩=some (.string T.tag.s)/\V.cell? ⟨W1.heap.size,1,none⟩=some (.slice T.tag.A T.tag.n T.tag.c)/\V.cell? ⟨W1.heap.size,2,none⟩=some (.slice T.A T.n T.c)/\V.cell? ⟨W1.heap.size,3,none⟩=some (.slice T.K T.kn T.kc)/\V.cell? ⟨W1.heap.size,4,none⟩=some (.string T.text.s)/\V.cell? ⟨W1.heap.size,5,none⟩=some (.slice T.text.A T.text.n T.text.c)):=fun V h=>by
        have y:=(HT7.out.2.1.whole HV3.out (fun h=>by omega)).below h (by have:=HV3.out.lt;omega)
        have zt:=HT7.out.1.below h HT7.out.1.lt
        exact⟨y.at_ 0,zt.at_ 0,zt.at_ 1,zt.at_ 2,zt.at_ 3,zt.at_ 4,zt.at_ 5⟩
      have HS7:Hid (∀ V,(W6.drew.alloc (.cells #[.string ⟨#[]⟩,.slice none 0 0,.slice none 0 0,.slice none 0 0,.string ⟨#[]⟩,.slice none 0 0] 48)).grownBy V (Value.slice A5 z c5).ownBlock->V.cell? ⟨w.heap.size+1,0,none⟩=some (.slice A5 z c5)/\V.cell? ⟨W1.heap.size,0,none⟩=some (.string T.tag.s)/\V.cell? ⟨W1.heap.size,1,none⟩=some (.slice T.tag.A T.tag.n T.tag.c)/\V.cell? ⟨W1.heap.size,2,none⟩=some (.slice T.A T.n T.c)/\V.cell? ⟨W1.heap.size,3,none⟩=some (.slice T.K T.kn T.kc)/\V.cell? ⟨W1.heap.size,4,none⟩=some (.string T.text.s)/\V.cell? ⟨W1.heap.size,5,none⟩=some (.slice T.text.A T.text.n T.text.c)):=fun V h=>by
        have y:=((HT7.out.2.1.whole HV3.out (fun h=>by omega)).drew.alloc _).grown h (fun h=>by have:=(HOWN3.out.lt _ h.symm).1;omega)
        have zt:=(HT7.out.1.drew.alloc _).grown h (fun h=>by have:=(HKL.out _ (HG.out _ h.symm)).2;omega)
        exact⟨y.at_ 0,zt.at_ 0,zt.at_ 1,zt.at_ 2,zt.at_ 3,zt.at_ 4,zt.at_ 5⟩
      have HG7':Hid (∀ (g7:Nat) (w7:World) (d7:Nat) (o:Obj),w7.ownsRow w4.heap.size 48 6 (.slice (some ⟨g7,0,none⟩) (z+1) d7) (z+1) (zf us++ zk zeroTT)->(W6.drew.alloc o).grownBy w7 (Value.slice A5 z c5).ownBlock->((Value.slice (some ⟨g7,0,none⟩) (z+1) d7).ownBlock=(Value.slice A5 z c5).ownBlock\/(Value.slice (some ⟨g7,0,none⟩) (z+1) d7).ownBlock=some (W6.drew.alloc o).heap.size)->((w7.cell? ⟨g7,z * 6,none⟩=some (.string zeroTT.tag.s)/\w7.cell? ⟨g7,z * 6+1,none⟩=some (.slice zeroTT.tag.A zeroTT.tag.n zeroTT.tag.c)/\w7.cell? ⟨g7,z * 6+2,none⟩=some (.slice zeroTT.A zeroTT.n zeroTT.c)/\w7.cell? ⟨g7,z * 6+3,none⟩=some (.slice zeroTT.K zeroTT.kn zeroTT.kc)/\w7.cell? ⟨g7,z * 6+4,none⟩=some (.string zeroTT.text.s)/\w7.cell? ⟨g7,z * 6+5,none⟩=some (.slice zeroTT.text.A zeroTT.text.n zeroTT.text.c)/\w7.frozen? ⟨g7,z * 6,none⟩=false/\w7.frozen? ⟨g7,z * 6+1,none⟩=false/\w7.frozen? ⟨g7,z * 6+2,none⟩=false/\w7.frozen? ⟨g7,z * 6+3,none⟩=false/\w7.frozen? ⟨g7,z * 6+4,none⟩=false/\w7.frozen? ⟨g7,z * 6+5,none⟩=false)/\(w7.cell? ⟨w.heap.size+1,0,none⟩=some (.slice A5 z c5)/\w7.frozen? ⟨w.heap.size+1,0,none⟩=false)/\(((((((w7.setCell ⟨g7,z * 6,none⟩ (.string T.tag.s)).setCell ⟨g7,z * 6+1,none⟩ (.slice T.tag.A T.tag.n T.tag.c)).setCell ⟨g7,z * 6+2,none⟩ (.slice T.A T.n T.c)).setCell ⟨g7,z * 6+3,none⟩ (.slice T.K T.kn T.kc)).setCell ⟨g7,z * 6+4,none⟩ (.string T.text.s)).setCell ⟨g7,z * 6+5,none⟩ (.slice T.text.A T.text.n T.text.c)).cell? ⟨w.heap.size+1,0,none⟩=some (.slice A5 z c5)/\((((((w7.setCell ⟨g7,z * 6,none⟩ (.string T.tag.s)).setCell ⟨g7,z * 6+1,none⟩ (.slice T.tag.A T.tag.n T.tag.c)).setCell ⟨g7,z * 6+2,none⟩ (.slice T.A T.n T.c)).setCell ⟨g7,z * 6+3,none⟩ (.slice T.K T.kn T.kc)).setCell ⟨g7,z * 6+4,none⟩ (.string T.text.s)).setCell ⟨g7,z * 6+5,none⟩ (.slice T.text.A T.text.n T.text.c)).frozen? ⟨w.heap.size+1,0,none⟩=false))/\(∀ u,(w7.setCell ⟨w.heap.size+1,0,none⟩ u).cell? ⟨g7,z * 6,none⟩=some (.string zeroTT.tag.s)/\(w7.setCell ⟨w.heap.size+1,0,none⟩ u).cell? ⟨g7,z * 6+1,none⟩=some (.slice zeroTT.tag.A zeroTT.tag.n zeroTT.tag.c)/\(w7.setCell ⟨w.heap.size+1,0,none⟩ u).cell? ⟨g7,z * 6+2,none⟩=some (.slice zeroTT.A zeroTT.n zeroTT.c)/\(w7.setCell ⟨w.heap.size+1,0,none⟩ u).cell? ⟨g7,z * 6+3,none⟩=some (.slice zeroTT.K zeroTT.kn zeroTT.kc)/\(w7.setCell ⟨w.heap.size+1,0,none⟩ u).cell? ⟨g7,z * 6+4,none⟩=some (.string zeroTT.text.s)/\(w7.setCell ⟨w.heap.size+1,0,none⟩ u).cell? ⟨g7,z * 6+5,none⟩=some (.slice zeroTT.text.A zeroTT.text.n zeroTT.text.c)/\(w7.setCell ⟨w.heap.size+1,0,none⟩ u).frozen? ⟨g7,z * 6,none⟩=false/\(w7.setCell ⟨w.heap.size+1,0,none⟩ u).frozen? ⟨g7,z * 6+1,none⟩=false/\(w7.setCell ⟨w.heap.size+1,0,none⟩ u).frozen? ⟨g7,z * 6+2,none⟩=false/\(w7.setCell ⟨w.heap.size+1,0,none⟩ u).frozen? ⟨g7,z * 6+3,none⟩=false/\(w7.setCell ⟨w.heap.size+1,0,none⟩ u).frozen? ⟨g7,z * 6+4,none⟩=false/\(w7.setCell ⟨w.heap.size+1,0,none⟩ u).frozen? ⟨g7,z * 6+5,none⟩=false)/\(∃ K',zio g (w.heap.size+1) w4 (pre++ [x]) K' (((((((w7.setCell ⟨g7,z * 6,none⟩ (.string T.tag.s)).setCell ⟨g7,z * 6+1,none⟩ (.slice T.tag.A T.tag.n T.tag.c)).setCell ⟨g7,z * 6+2,none⟩ (.slice T.A T.n T.c)).setCell ⟨g7,z * 6+3,none⟩ (.slice T.K T.kn T.kc)).setCell ⟨g7,z * 6+4,none⟩ (.string T.text.s)).setCell ⟨g7,z * 6+5,none⟩ (.slice T.text.A T.text.n T.text.c)).setCell ⟨w.heap.size+1,0,none⟩ (.slice (some ⟨g7,0,none⟩) (z+1) d7))/\(∀ b,K' b->K b\/G b\/(W1.heap.size<=b/\b < (((((((w7.setCell ⟨g7,z * 6,none⟩ (.string T.tag.s)).setCell ⟨g7,z * 6+1,none⟩ (.slice T.tag.A T.tag.n T.tag.c)).setCell ⟨g7,z * 6+2,none⟩ (.slice T.A T.n T.c)).setCell ⟨g7,z * 6+3,none⟩ (.slice T.K T.kn T.kc)).setCell ⟨g7,z * 6+4,none⟩ (.string T.text.s)).setCell ⟨g7,z * 6+5,none⟩ (.slice T.text.A T.text.n T.text.c)).setCell ⟨w.heap.size+1,0,none⟩ (.slice (some ⟨g7,0,none⟩) (z+1) d7)).heap.size))/\Moved (fun b=>K b\/G b\/W1.heap.size<=b) W3 (((((((w7.setCell ⟨g7,z * 6,none⟩ (.string T.tag.s)).setCell ⟨g7,z * 6+1,none⟩ (.slice T.tag.A T.tag.n T.tag.c)).setCell ⟨g7,z * 6+2,none⟩ (.slice T.A T.n T.c)).setCell ⟨g7,z * 6+3,none⟩ (.slice T.K T.kn T.kc)).setCell ⟨g7,z * 6+4,none⟩ (.string T.text.s)).setCell ⟨g7,z * 6+5,none⟩ (.slice T.text.A T.text.n T.text.c)).setCell ⟨w.heap.size+1,0,none⟩ (.slice (some ⟨g7,0,none⟩) (z+1) d7)))/\(∃ K',zio g (w.heap.size+1) w4 (pre++ [x]) K' (((((((w7.setCell ⟨w.heap.size+1,0,none⟩ (.slice (some ⟨g7,0,none⟩) (z+1) d7)).setCell ⟨g7,z * 6,none⟩ (.string T.tag.s)).setCell ⟨g7,z * 6+1,none⟩ (.slice T.tag.A T.tag.n T.tag.c)).setCell ⟨g7,z * 6+2,none⟩ (.slice T.A T.n T.c)).setCell ⟨g7,z * 6+3,none⟩ (.slice T.K T.kn T.kc)).setCell ⟨g7,z * 6+4,none⟩ (.string T.text.s)).setCell ⟨g7,z * 6+5,none⟩ (.slice T.text.A T.text.n T.text.c))/\(∀ b,K' b->K b\/G b\/(W1.heap.size<=b/\b < (((((((w7.setCell ⟨w.heap.size+1,0,none⟩ (.slice (some ⟨g7,0,none⟩) (z+1) d7)).setCell ⟨g7,z * 6,none⟩ (.string T.tag.s)).setCell ⟨g7,z * 6+1,none⟩ (.slice T.tag.A T.tag.n T.tag.c)).setCell ⟨g7,z * 6+2,none⟩ (.slice T.A T.n T.c)).setCell ⟨g7,z * 6+3,none⟩ (.slice T.K T.kn T.kc)).setCell ⟨g7,z * 6+4,none⟩ (.string T.text.s)).setCell ⟨g7,z * 6+5,none⟩ (.slice T.text.A T.text.n T.text.c)).heap.size))/\Moved (fun b=>K b\/G b\/W1.heap.size<=b) W3 (((((((w7.setCell ⟨w.heap.size+1,0,none⟩ (.slice (some ⟨g7,0,none⟩) (z+1) d7)).setCell ⟨g7,z * 6,none⟩ (.string T.tag.s)).setCell ⟨g7,z * 6+1,none⟩ (.slice T.tag.A T.tag.n T.tag.c)).setCell ⟨g7,z * 6+2,none⟩ (.slice T.A T.n T.c)).setCell ⟨g7,z * 6+3,none⟩ (.slice T.K T.kn T.kc)).setCell ⟨g7,z * 6+4,none⟩ (.string T.text.s)).setCell ⟨g7,z * 6+5,none⟩ (.slice T.text.A T.text.n T.text.c)))):=fun g7 w7 d7 o q1 q2 q3=>HG7.out T W6.drew w7 d7 g7 o (zjN HT7.out) q1 q2 q3
      have hS:=HSB7.out W6.drew (Below.drew (Below.refl _ _))
      clear HT6
      gi_wp2_with fail
      refine zc6 (by kernel_rfl) rfl (zfg fun _ _ h=>by obtain⟨h1,_⟩:=h;cases h1) ?_
      refine zbe (S:=fun V=>V.cell? ⟨w.heap.size+1,0,none⟩=some (.slice A5 z c5)/\V.cell? ⟨W1.heap.size,0,none⟩=some (.string T.tag.s)/\V.cell? ⟨W1.heap.size,1,none⟩=some (.slice T.tag.A T.tag.n T.tag.c)/\V.cell? ⟨W1.heap.size,2,none⟩=some (.slice T.A T.n T.c)/\V.cell? ⟨W1.heap.size,3,none⟩=some (.slice T.K T.kn T.kc)/\V.cell? ⟨W1.heap.size,4,none⟩=some (.string T.text.s)/\V.cell? ⟨W1.heap.size,5,none⟩=some (.slice T.text.A T.text.n T.text.c)) (Z:=fun i=>decide (5<=i)) _ _ _ _ ?_
      refine' zc (i:=0) ?i28 (by kernel_rfl) (by kernel_rfl) (by kernel_rfl) (by kernel_rfl) ?q28 ?y28 hS ?r28
      case i28=>simp only[zlD,zlE];rfl
      case q28=>exact fun _ _ _ h=>h
      case y28=>
        refine Or.inl ⟨by rfl,?_⟩
        intro wq hq
        try dsimp only at hq
        try obtain⟨hq0,hq1,hq2,hq3,hq4,hq5,hq6⟩:=hq
        go_simp
        try with_reducible rfl
      try simp only[Act.put,zlA,zlB,zlC]
      refine' zc (i:=1) ?i29 (by kernel_rfl) (by kernel_rfl) (by kernel_rfl) (by kernel_rfl) ?q29 ?y29 hS ?r29
      case i29=>simp only[zlD,zlF,zlE];rfl
      case q29=>exact fun _ _ _ h=>h
      case y29=>
        refine Or.inl ⟨by rfl,?_⟩
        intro wq hq
        try dsimp only at hq
        try obtain⟨hq0,hq1,hq2,hq3,hq4,hq5,hq6⟩:=hq
        go_simp
        try with_reducible rfl
      try simp only[Act.put,zlA,zlB,zlC]
      refine' zc (i:=2) ?i30 (by kernel_rfl) (by kernel_rfl) (by kernel_rfl) (by kernel_rfl) ?q30 ?y30 hS ?r30
      case i30=>simp only[zlD,zlF,zlE];rfl
      case q30=>exact fun _ _ _ h=>h
      case y30=>
        refine Or.inl ⟨by rfl,?_⟩
        intro wq hq
        try dsimp only at hq
        try obtain⟨hq0,hq1,hq2,hq3,hq4,hq5,hq6⟩:=hq
        go_simp
        try with_reducible rfl
      try simp only[Act.put,zlA,zlB,zlC]
      refine za (rs:=[3]) (by kernel_rfl) (by simp) ?_
      refine' ReadyL.cons ?o31 (fun K hK=>?s31) ReadyL.nil
      case o31=>simp only[zlD,zlF,zlE];rfl
      go_simp
      refine hK.out _ _ (.inr (HSB7.out _ ((Below.drew (Below.refl W6.heap.size W6)).alloc (Nat.le_refl _) _))) ?_
      clear hK K hS
      try simp only[Act.put,zlA,zlB,zlC]
      refine za (rs:=[4]) (by kernel_rfl) (by simp) ?_
      refine' ReadyL.cons ?o32 (fun K hK=>?s32) ReadyL.nil
      case o32=>simp only[zlD,zlF,zlE];rfl
      refine zR _ rfl _ _ 27 rfl w4.heap.size 48 i0 _ 6 128 Tryz.underlying27 hi hiz0 hiz1 hiz2 rfl (by decide) (.slice A5 z c5) z (zf us) rfl HOWN6.out (W6.heap.size+1) (some ⟨W6.heap.size,0,none⟩) 1 1 (zk zeroTT) rfl (by simp) rfl (zmc W6.drew _ _) (zbt _) (by simp only[maxLen];omega) (by omega) (by simp;omega) ?_
      intro v' w7 hown7 hgr hv'
      obtain⟨A7,d7,rfl,_,_,_⟩:=zg hown7
      obtain⟨g7,rfl⟩:∃ g7,A7=some ⟨g7,0,none⟩:=zl9 hown7 (Nat.succ_pos _)
      have HGO:=Lib.hid (HG7'.out g7 w7 d7 _ hown7 hgr hv')
      have HGA:=Lib.hid HGO.out.1.1
      have HGB:=Lib.hid HGO.out.1.2.1
      have HGC:=Lib.hid HGO.out.1.2.2
      have HGD:=Lib.hid HGO.out.2.1
      have HGE:=Lib.hid HGO.out.2.2.1
      have HGF:=Lib.hid HGO.out.2.2.2
      clear HGO HG7'
      have hS7:=HS7.out _ hgr
      refine hK.out _ _ (.inr hS7) ?_
      clear hK K
      try simp only[Act.put,zlA,zlB,zlC]
      have hk0:(0:Int)<=(z:Int):=Int.natCast_nonneg _
      have hk1:(z:Int) < ((z+1:Nat):Int):=by omega
      have hk2:(z:Int) < (z:Int)+1:=by omega
      refine za (rs:=[5,7]) (by kernel_rfl) (by simp) ?_
      refine' ReadyL.cons ?o33 (fun K hK=>?s33) ?m33
      case o33=>simp only[zlD,zlF,zlE];rfl
      case s33=>
        go_simp
        refine hK.out _ _ (.inl (by decide)) ?_
        clear hK K
        try simp only[Act.put,zlA,zlB,zlC]
        refine za (rs:=[6,7]) (by kernel_rfl) (by simp) ?_
        refine' ReadyL.cons ?o34 (fun K hK=>?s34) ?m34
        case o34=>simp only[zlD,zlF,zlE];rfl
        case s34=>
          obtain⟨k0,k1,k2,k3,k4,k5,f0,f1,f2,f3,f4,f5⟩:=HGA.out
          go_simp
          refine hK.out _ _ (.inl (by decide)) ?_
          clear k0 k1 k2 k3 k4 k5 f0 f1 f2 f3 f4 f5
          clear hK K
          try simp only[Act.put,zlA,zlB,zlC]
          refine za (rs:=[7]) (by kernel_rfl) (by simp) ?_
          refine' ReadyL.cons ?o35 (fun K hK=>?s35) ReadyL.nil
          case o35=>simp only[zlD,zlF,zlE];rfl
          have k6:=HGC.out.1
          have f6:=HGC.out.2
          go_simp
          refine hK.out _ _ (.inl (by decide)) ?_
          clear k6 f6
          clear hK K
          try simp only[Act.put,zlA,zlB,zlC]
          refine zi (by kernel_rfl) ?_ _
          refine⟨rfl,?_⟩
          obtain⟨K9,q1,q2,q3⟩:=HGE.out
          exact⟨K9,q1,fun b h=>(q2 b h).imp id fun h=>h.imp id fun h=>⟨h.1,by simpa [World.setCell]using h.2⟩,q3⟩
        refine' ReadyL.cons ?o36 (fun K hK=>?s36) ReadyL.nil
        case o36=>simp only[zlD,zlF,zlE];rfl
        have k6:=HGB.out.1
        have f6:=HGB.out.2
        go_simp
        refine hK.out _ _ (.inl (by decide)) ?_
        clear k6 f6
        clear hK K
        try simp only[Act.put,zlA,zlB,zlC]
        refine za (rs:=[6]) (by kernel_rfl) (by simp) ?_
        refine' ReadyL.cons ?o37 (fun K hK=>?s37) ReadyL.nil
        case o37=>simp only[zlD,zlF,zlE];rfl
        obtain⟨k0,k1,k2,k3,k4,k5,f0,f1,f2,f3,f4,f5⟩:=HGD.out (.slice (some ⟨g7,0,none⟩) (z+1) d7)
        go_simp
        refine hK.out _ _ (.inl (by decide)) ?_
        clear k0 k1 k2 k3 k4 k5 f0 f1 f2 f3 f4 f5
        clear hK K
        try simp only[Act.put,zlA,zlB,zlC]
        refine zi (by kernel_rfl) ?_ _
        refine⟨rfl,?_⟩
        obtain⟨K9,q1,q2,q3⟩:=HGF.out
        exact⟨K9,q1,fun b h=>(q2 b h).imp id fun h=>h.imp id fun h=>⟨h.1,by simpa [World.setCell]using h.2⟩,q3⟩
      refine' ReadyL.cons ?o38 (fun K hK=>?s38) ReadyL.nil
      case o38=>simp only[zlD,zlF,zlE];rfl
      have k6:=HGB.out.1
      have f6:=HGB.out.2
      go_simp
      refine hK.out _ _ (.inl (by decide)) ?_
      clear k6 f6
      clear hK K
      try simp only[Act.put,zlA,zlB,zlC]
      refine za (rs:=[5]) (by kernel_rfl) (by simp) ?_
      refine' ReadyL.cons ?o39 (fun K hK=>?s39) ReadyL.nil
      case o39=>simp only[zlD,zlF,zlE];rfl
      go_simp
      refine hK.out _ _ (.inl (by decide)) ?_
      clear hK K
      try simp only[Act.put,zlA,zlB,zlC]
      refine za (rs:=[6]) (by kernel_rfl) (by simp) ?_
      refine' ReadyL.cons ?o40 (fun K hK=>?s40) ReadyL.nil
      case o40=>simp only[zlD,zlF,zlE];rfl
      obtain⟨k0,k1,k2,k3,k4,k5,f0,f1,f2,f3,f4,f5⟩:=HGD.out (.slice (some ⟨g7,0,none⟩) (z+1) d7)
      go_simp
      refine hK.out _ _ (.inl (by decide)) ?_
      clear k0 k1 k2 k3 k4 k5 f0 f1 f2 f3 f4 f5
      clear hK K
      try simp only[Act.put,zlA,zlB,zlC]
      refine zi (by kernel_rfl) ?_ _
      refine⟨rfl,?_⟩
      obtain⟨K9,q1,q2,q3⟩:=HGF.out
      exact⟨K9,q1,fun b h=>(q2 b h).imp id fun h=>h.imp id fun h=>⟨h.1,by simpa [World.setCell]using h.2⟩,q3⟩
  case done=>
    rintro D xs K W1 hD hdx ⟨v,us,hy,hown,hg,hus,he,hkb,hkl,hm⟩ hKD hdef
    have hz41:w4.heap.size<=W1.heap.size:=hm.size
    obtain⟨A5,c5,rfl,_,_,_⟩:=zg hown
    have c3:W1.cell? ⟨w.heap.size+1,0,none⟩=some (.slice A5 us.length c5):=hy.at_ 0
    have HFIN:Hid (TellsT (fun b=>w.heap.size<=b) (mapL g (zj Q)) w (.returned (.slice A5 us.length c5)) (W1.putObj D (.deferred none))):=by
      refine⟨A5,c5,us,rfl,?_,?_,?_,?_⟩
      . exact zD (base:=w4.heap.size) ((Moved.putObj W1 D (.deferred none)).own hown fun g h h2=>hKD (h2 ▸ hg g h)) (by omega)
      . exact(hus.keep ((Moved.putObj W1 D (.deferred none)).stays fun i _ h h2=>hKD (h2 ▸ h.1))).mono fun b h _=>by have:=(hkl b h.1).1;show w.heap.size<=b;omega
      . refine⟨?_,he.2.1,fun e=>?_⟩
        . rw[he.1,show chL xs=sibs (chL ts)from hdx,HQ.out,zpU]
        . have h5:=he.2.2 e
          injection h5 with e1 e2 e3
          exact⟨e1,e3⟩
      . refine Moved.below (S:=fun b=>w.heap.size<=b) ?_ (Nat.le_refl _) (fun k hk h=>by omega)
        exact((Moved.of_below HB4.out).join hm fun i hi h=>by omega).join (Moved.putObj _ _ _) fun i hi h=>by omega
    have HD:=Lib.hid hdef
    clear hown hy hg hus he hkb hkl hm hKD hdef hdx
    gi_wp2_with fail
    refine zge rfl HD.out ?_
    refine⟨_,results_tmp (t:=4) rfl _ _ _,?_⟩
    exact HFIN.out
end Go.Proofs.YtddgabjhligeeaaGreat.mk
namespace Go.Proofs.YtddgabjhligeeaaGreat.mk
open Go.RowKit
mutual
def PT.eqT:PT->PT->Bool
  | ⟨tag,attrs,kids,text⟩,y=>decide (tag=y.tag) && (zfl attrs y.attrs && (decide (text=y.text) && eqL kids y.kids))
def eqL:List PT->List PT->Bool
  | [],[]=>true
  | [],_::_=>false
  | _::_,[]=>false
  | x::xs,y::ys=>x.eqT y && eqL xs ys
end
theorem PT.eqT_eq(x y:PT):x.eqT y=(decide (x.tag=y.tag) && (zfl x.attrs y.attrs && (decide (x.text=y.text) && eqL x.kids y.kids))):=by cases x;rw[PT.eqT]
theorem ztZ{a b:List PT}(h:a.length≠b.length):eqL a b=false:=by
  induction a generalizing b with
  | nil=>cases b with
    | nil=>exact absurd rfl h
    | cons y ys=>rw[eqL]
  | cons x xs ih=>cases b with
    | nil=>rw[eqL]
    | cons y ys=>rw[eqL,ih (fun e=>h (by simp [e])),Bool.and_false]
theorem zse{a b:List PT}{k:Nat}{x y:PT}(hx:a[k]?=some x)(hy:b[k]?=some y):eqL (a.take (k+1)) (b.take (k+1))=(eqL (a.take k) (b.take k) && x.eqT y):=by
  induction a generalizing b k with
  | nil=>cases hx
  | cons p a ih=>cases b with
    | nil=>cases hy
    | cons q b=>cases k with
      | zero=>
        simp at hx hy
        subst hx hy
        simp [eqL]
      | succ k=>
        rw[List.take_succ_cons,List.take_succ_cons,List.take_succ_cons,List.take_succ_cons,eqL,eqL,ih (by simpa using hx) (by simpa using hy),Bool.and_assoc]
theorem zp4{a b:List PT}{k:Nat}(hl:a.length=b.length)(h:eqL (a.take k) (b.take k)=false):eqL a b=false:=by
  induction a generalizing b k with
  | nil=>cases b with
    | nil=>rw[List.take_nil]at h;exact h
    | cons y ys=>rw[eqL]
  | cons x xs ih=>cases b with
    | nil=>rw[eqL]
    | cons y ys=>cases k with
      | zero=>rw[List.take_zero,List.take_zero,eqL]at h;cases h
      | succ k=>
        rw[List.take_succ_cons,List.take_succ_cons,eqL,Bool.and_eq_false_iff]at h
        rw[eqL,Bool.and_eq_false_iff]
        exact h.imp id (ih (by simpa using hl))
def TreesAt(w:World)(A:Option Addr)(n:Nat)(ts:List TT):Prop:=Lies w w.heap.size A (zf ts)/\AllS (fun _=>True) w ts/\ts.length=n/\n<=1048576
theorem TreesAt.next{w w':World}{A:Option Addr}{n:Nat}{ts:List TT}(h:TreesAt w A n ts)(hb:Below w.heap.size w w'):TreesAt w' A n ts:=⟨h.1.next hb (Nat.le_refl _),h.2.1.keep (Stays.of hb),h.2.2⟩
def zuZ(a b:List PT)(n:Nat)(w0:World)(i:Value)(wr:World):Prop:=∃ k:Nat,k<=n/\i=.int .i64 (k:Int)/\eqL (a.take k) (b.take k)=true/\Below w0.heap.size w0 wr
theorem zis(A:Option Addr)(n c:Nat)(ts:List TT)(B:Option Addr)(m d:Nat)(us:List TT)(w:World)(h1:TreesAt w A n ts)(h2:TreesAt w B m us)
    (hF:∀ (x y:TT) w',x∈ts->y∈us->Below w.heap.size w w'->Calls Tryz.prog 94 #[.agg #[.string x.tag.s,.slice x.tag.A x.tag.n x.tag.c,.slice x.A x.n x.c,.slice x.K x.kn x.kc,.string x.text.s,.slice x.text.A x.text.n x.text.c],.agg #[.string y.tag.s,.slice y.tag.A y.tag.n y.tag.c,.slice y.A y.n y.c,.slice y.K y.kn y.kc,.string y.text.s,.slice y.text.A y.text.n y.text.c]] w' fun e w''=>e=.returned (.bool (x.ch.eqT y.ch))/\Below w'.heap.size w' w'') :
    Calls Tryz.prog 93 #[.slice A n c,.slice B m d,.func (.func 94) #[] #[]] w fun e w'=>e=.returned (.bool (eqL (chL ts) (chL us)))/\Below w.heap.size w w':=by
  have H1:=Lib.hid h1
  have H2:=Lib.hid h2
  have HF:=Lib.hid hF
  have hn2:n<=1048576:=h1.2.2.2
  clear h1 h2 hF
  by_cases hnm:n=m
  . subst hnm
    have HLN:Hid ((chL ts).length=(chL us).length):=by show _=_;rw[zx,zx,H1.out.2.2.1,H2.out.2.2.1]
    go_enter Tryz.func93,Tryz.ntmps93
    go_wp2_with fail
    go_loopw [17] (zuZ (chL ts) (chL us) n w) (fun i _=>n - (intOf i).toNat)
    case atStart=>exact⟨0,Nat.zero_le _,rfl,rfl,Below.refl _ _⟩
    case round=>
      obtain⟨k,hk,rfl,he,hb⟩:=hrel
      have HE:=Lib.hid he
      clear he
      by_cases hlt:k < n
      . obtain⟨ad,x,rfl,hbA,d0,d1,d2,d3,d4,d5,HR⟩:=(H1.out.next hb).1.tree (k:=k) (by rw[H1.out.2.2.1];exact hlt)
        obtain⟨ad',y,rfl,hbB,e0,e1,e2,e3,e4,e5,HR'⟩:=(H2.out.next hb).1.tree (k:=k) (by rw[H2.out.2.2.1];exact hlt)
        have hk0:(0:Int)<=(k:Int):=Int.natCast_nonneg _
        have hk1:(k:Int) < (n:Int):=by omega
        have HSN:Hid (eqL ((chL ts).take (k+1)) ((chL us).take (k+1))=x.ch.eqT y.ch):=by
          show _=_
          rw[zse (zi6 HR.out) (zi6 HR'.out),HE.out,Bool.true_and]
        generalize hw4:wr.alloc (.cells #[.string x.tag.s,.slice x.tag.A x.tag.n x.tag.c,.slice x.A x.n x.c,.slice x.K x.kn x.kc,.string x.text.s,.slice x.text.A x.text.n x.text.c] 48)=w4
        have y4:Whole w4 wr.heap.size 48 #[.string x.tag.s,.slice x.tag.A x.tag.n x.tag.c,.slice x.A x.n x.c,.slice x.K x.kn x.kc,.string x.text.s,.slice x.text.A x.text.n x.text.c]:=by rw[<-hw4];exact Whole.made _ _ _
        have hb4:Below wr.heap.size wr w4:=by rw[<-hw4];exact(Below.refl _ _).alloc (Nat.le_refl _) _
        have hz4:w4.heap.size=wr.heap.size+1:=by rw[<-hw4];simp
        have g0:w4.cell? (ad'.add (k * 6))=some (.string y.tag.s):=(hb4.cell (by rw[zW];exact hbB)).trans e0
        have g1:w4.cell? ⟨(ad'.add (k * 6)).block,(ad'.add (k * 6)).off+1,none⟩=some (.slice y.tag.A y.tag.n y.tag.c):=(hb4.cell (by show(ad'.add (k * 6)).block < _;rw[zW];exact hbB)).trans e1
        have g2:w4.cell? ⟨(ad'.add (k * 6)).block,(ad'.add (k * 6)).off+2,none⟩=some (.slice y.A y.n y.c):=(hb4.cell (by show(ad'.add (k * 6)).block < _;rw[zW];exact hbB)).trans e2
        have g3:w4.cell? ⟨(ad'.add (k * 6)).block,(ad'.add (k * 6)).off+3,none⟩=some (.slice y.K y.kn y.kc):=(hb4.cell (by show(ad'.add (k * 6)).block < _;rw[zW];exact hbB)).trans e3
        have g4:w4.cell? ⟨(ad'.add (k * 6)).block,(ad'.add (k * 6)).off+4,none⟩=some (.string y.text.s):=(hb4.cell (by show(ad'.add (k * 6)).block < _;rw[zW];exact hbB)).trans e4
        have g5:w4.cell? ⟨(ad'.add (k * 6)).block,(ad'.add (k * 6)).off+5,none⟩=some (.slice y.text.A y.text.n y.text.c):=(hb4.cell (by show(ad'.add (k * 6)).block < _;rw[zW];exact hbB)).trans e5
        generalize hw5:w4.alloc (.cells #[.string y.tag.s,.slice y.tag.A y.tag.n y.tag.c,.slice y.A y.n y.c,.slice y.K y.kn y.kc,.string y.text.s,.slice y.text.A y.text.n y.text.c] 48)=w5
        have y5:Whole w5 w4.heap.size 48 #[.string y.tag.s,.slice y.tag.A y.tag.n y.tag.c,.slice y.A y.n y.c,.slice y.K y.kn y.kc,.string y.text.s,.slice y.text.A y.text.n y.text.c]:=by rw[<-hw5];exact Whole.made _ _ _
        have hb5:Below w4.heap.size w4 w5:=by rw[<-hw5];exact(Below.refl _ _).alloc (Nat.le_refl _) _
        have z4:=y4.below hb5 y4.lt
        have p0:w5.cell? ⟨wr.heap.size,0,none⟩=some (.string x.tag.s):=z4.at_ 0
        have p1:w5.cell? ⟨wr.heap.size,1,none⟩=some (.slice x.tag.A x.tag.n x.tag.c):=z4.at_ 1
        have p2:w5.cell? ⟨wr.heap.size,2,none⟩=some (.slice x.A x.n x.c):=z4.at_ 2
        have p3:w5.cell? ⟨wr.heap.size,3,none⟩=some (.slice x.K x.kn x.kc):=z4.at_ 3
        have p4:w5.cell? ⟨wr.heap.size,4,none⟩=some (.string x.text.s):=z4.at_ 4
        have p5:w5.cell? ⟨wr.heap.size,5,none⟩=some (.slice x.text.A x.text.n x.text.c):=z4.at_ 5
        have q0:w5.cell? ⟨w4.heap.size,0,none⟩=some (.string y.tag.s):=y5.at_ 0
        have q1:w5.cell? ⟨w4.heap.size,1,none⟩=some (.slice y.tag.A y.tag.n y.tag.c):=y5.at_ 1
        have q2:w5.cell? ⟨w4.heap.size,2,none⟩=some (.slice y.A y.n y.c):=y5.at_ 2
        have q3:w5.cell? ⟨w4.heap.size,3,none⟩=some (.slice y.K y.kn y.kc):=y5.at_ 3
        have q4:w5.cell? ⟨w4.heap.size,4,none⟩=some (.string y.text.s):=y5.at_ 4
        have q5:w5.cell? ⟨w4.heap.size,5,none⟩=some (.slice y.text.A y.text.n y.text.c):=y5.at_ 5
        have HB5:Hid (Below w.heap.size w w5):=zb (zb hb (Nat.le_refl _) hb4) (Nat.le_refl _) hb5
        have HB:=Lib.hid hb
        have HCALL:=Lib.hid (HF.out x y w5 (List.mem_of_getElem? HR.out) (List.mem_of_getElem? HR'.out) HB5.out)
        clear hb hb4 hb5 y4 y5 z4 hz4
        go_wp2_with fail
        refine HCALL.out.mono ?_
        rintro e w6 ⟨rfl,hb6⟩
        have HB6:Hid (Below w.heap.size w w6):=zb HB5.out (Nat.le_refl _) hb6
        clear hb6 HCALL d0 d1 d2 d3 d4 d5 e0 e1 e2 e3 e4 e5 g0 g1 g2 g3 g4 g5 p0 p1 p2 p3 p4 p5 q0 q1 q2 q3 q4 q5
        cases hq:x.ch.eqT y.ch with
        | true=>
          have HT:Hid (eqL ((chL ts).take (k+1)) ((chL us).take (k+1))=true):=HSN.out.trans hq
          clear hq
          go_wp2_with fail
          go_roundw
          case rel=>exact⟨k+1,by omega,by go_num,HT.out,HB6.out⟩
          case measure=>simp [intOf];omega
        | false=>
          have HT:Hid (eqL (chL ts) (chL us)=false):=zp4 HLN.out (HSN.out.trans hq)
          clear hq
          go_wp2_with fail
          go_ret
          exact⟨by rw[HT.out];rfl,HB6.out⟩
      . obtain rfl:k=n:=by omega
        have HT:Hid (eqL (chL ts) (chL us)=true):=by
          have h:=HE.out
          rw[List.take_of_length_le (by rw[zx,H1.out.2.2.1];exact Nat.le_refl _),List.take_of_length_le (by rw[zx,H2.out.2.2.1];exact Nat.le_refl _)]at h
          exact h
        have HB:=Lib.hid hb
        clear hb
        go_wp2_with fail
        go_ret
        exact⟨by rw[HT.out];rfl,HB.out⟩
  . have HT:Hid (eqL (chL ts) (chL us)=false):=ztZ (by rw[zx,zx,H1.out.2.2.1,H2.out.2.2.1];exact hnm)
    have hne:¬ (n:Int)=(m:Int):=by omega
    have hne2:((n:Int) == (m:Int))=false:=by simpa using hne
    go_enter Tryz.func93,Tryz.ntmps93
    go_wp2_with fail
    go_ret
    exact⟨by rw[HT.out];rfl,Below.refl _ _⟩
theorem znr(x y:TT)(w:World)(hx:x.inS (fun _=>True) w)(hy:y.inS (fun _=>True) w)
    (hK:∀ w',Below w.heap.size w w'->Calls Tryz.prog 55 #[.slice x.K x.kn x.kc,.slice y.K y.kn y.kc] w' fun e w''=>e=.returned (.bool (eqL (chL x.kids) (chL y.kids)))/\Below w'.heap.size w' w'') :
    Calls Tryz.prog 94 #[.agg #[.string x.tag.s,.slice x.tag.A x.tag.n x.tag.c,.slice x.A x.n x.c,.slice x.K x.kn x.kc,.string x.text.s,.slice x.text.A x.text.n x.text.c],.agg #[.string y.tag.s,.slice y.tag.A y.tag.n y.tag.c,.slice y.A y.n y.c,.slice y.K y.kn y.kc,.string y.text.s,.slice y.text.A y.text.n y.text.c]] w fun e w'=>e=.returned (.bool (x.ch.eqT y.ch))/\Below w.heap.size w w':=by
  have HX:=Lib.hid hx
  have HY:=Lib.hid hy
  have HK:=Lib.hid hK
  have HE:Hid (x.ch.eqT y.ch=(decide (x.tag.ch=y.tag.ch) && (zfl (x.atts.map AT.ch) (y.atts.map AT.ch) && (decide (x.text.ch=y.text.ch) && eqL (chL x.kids) (chL y.kids))))):=by
    show _=_
    rw[PT.eqT_eq,TT.ch_tag,TT.ch_tag,TT.ch_attrs,TT.ch_attrs,TT.ch_text,TT.ch_text,TT.ch_kids,TT.ch_kids]
  clear hx hy hK
  go_enter Tryz.func94,Tryz.ntmps94
  generalize hw0:(w.alloc (.cells #[.string x.tag.s,.slice x.tag.A x.tag.n x.tag.c,.slice x.A x.n x.c,.slice x.K x.kn x.kc,.string x.text.s,.slice x.text.A x.text.n x.text.c] 48)).alloc (.cells #[.string y.tag.s,.slice y.tag.A y.tag.n y.tag.c,.slice y.A y.n y.c,.slice y.K y.kn y.kc,.string y.text.s,.slice y.text.A y.text.n y.text.c] 48)=w0
  have y1:Whole w0 w.heap.size 48 #[.string x.tag.s,.slice x.tag.A x.tag.n x.tag.c,.slice x.A x.n x.c,.slice x.K x.kn x.kc,.string x.text.s,.slice x.text.A x.text.n x.text.c]:=by rw[<-hw0];exact(Whole.made w _ _).alloc _
  have y2:Whole w0 (w.heap.size+1) 48 #[.string y.tag.s,.slice y.tag.A y.tag.n y.tag.c,.slice y.A y.n y.c,.slice y.K y.kn y.kc,.string y.text.s,.slice y.text.A y.text.n y.text.c]:=by
    rw[<-hw0]
    have h:=Whole.made (w.alloc (.cells #[.string x.tag.s,.slice x.tag.A x.tag.n x.tag.c,.slice x.A x.n x.c,.slice x.K x.kn x.kc,.string x.text.s,.slice x.text.A x.text.n x.text.c] 48)) 48 #[.string y.tag.s,.slice y.tag.A y.tag.n y.tag.c,.slice y.A y.n y.c,.slice y.K y.kn y.kc,.string y.text.s,.slice y.text.A y.text.n y.text.c]
    simp only[World.size_alloc]at h
    exact h
  have hb0:Below w.heap.size w w0:=by rw[<-hw0];exact((Below.refl _ _).alloc (Nat.le_refl _) _).alloc (by simp) _
  have HV:Hid (∀ V,Below w0.heap.size w0 V->(V.cell? ⟨w.heap.size,0,none⟩=some (.string x.tag.s)/\V.cell? ⟨w.heap.size,1,none⟩=some (.slice x.tag.A x.tag.n x.tag.c)/\V.cell? ⟨w.heap.size,2,none⟩=some (.slice x.A x.n x.c)/\V.cell? ⟨w.heap.size,3,none⟩=some (.slice x.K x.kn x.kc)/\V.cell? ⟨w.heap.size,4,none⟩=some (.string x.text.s)/\V.cell? ⟨w.heap.size,5,none⟩=some (.slice x.text.A x.text.n x.text.c)/\
      V.cell? ⟨w.heap.size+1,0,none⟩=some (.string y.tag.s)/\V.cell? ⟨w.heap.size+1,1,none⟩=some (.slice y.tag.A y.tag.n y.tag.c)/\V.cell? ⟨w.heap.size+1,2,none⟩=some (.slice y.A y.n y.c)/\V.cell? ⟨w.heap.size+1,3,none⟩=some (.slice y.K y.kn y.kc)/\V.cell? ⟨w.heap.size+1,4,none⟩=some (.string y.text.s)/\V.cell? ⟨w.heap.size+1,5,none⟩=some (.slice y.text.A y.text.n y.text.c))/\Below w.heap.size w V):=fun V h=>by
    have a:=y1.below h y1.lt
    have b:=y2.below h y2.lt
    exact⟨⟨a.at_ 0,a.at_ 1,a.at_ 2,a.at_ 3,a.at_ 4,a.at_ 5,b.at_ 0,b.at_ 1,b.at_ 2,b.at_ 3,b.at_ 4,b.at_ 5⟩,zb hb0 (Nat.le_refl _) h⟩
  obtain⟨⟨a0,a1,a2,a3,a4,a5,c0,c1,c2,c3,c4,c5⟩,_⟩:=HV.out w0 (Below.refl _ _)
  clear y1 y2 hb0
  go_wp2_with fail
  clear hw0
  have hxs:∀ V,Below w.heap.size w V->x.inS (fun _=>True) V/\y.inS (fun _=>True) V:=fun V h=>⟨HX.out.keep (Stays.of h),HY.out.keep (Stays.of h)⟩
  have HXS:=Lib.hid hxs
  clear hxs
  have HB0:Hid (Below w.heap.size w w0):=(HV.out w0 (Below.refl _ _)).2
  refine(zfr x.tag y.tag w0 (HXS.out w0 HB0.out).1.tag.ok (HXS.out w0 HB0.out).2.tag.ok).mono ?_
  rintro e w1 ⟨rfl,hb1⟩
  clear a0 a1 a2 a3 a4 a5 c0 c1 c2 c3 c4 c5
  obtain⟨⟨a0,a1,a2,a3,a4,a5,c0,c1,c2,c3,c4,c5⟩,hB1⟩:=HV.out w1 hb1
  have HB1:=Lib.hid hb1
  have HW1:=Lib.hid hB1
  clear hb1 hB1
  have HS1:Hid (zfT x.tag y.tag=decide (x.tag.ch=y.tag.ch)):=zfu _ _
  rw[HS1.out]
  cases h1:decide (x.tag.ch=y.tag.ch) with
  | false=>
    have HR:Hid (x.ch.eqT y.ch=false):=HE.out.trans (by rw[h1];rfl)
    clear h1 HS1
    go_wp2_with fail
    go_ret
    exact⟨by rw[HR.out];rfl,HW1.out⟩
  | true=>
    have HR1:Hid (x.ch.eqT y.ch=(zfl (x.atts.map AT.ch) (y.atts.map AT.ch) && (decide (x.text.ch=y.text.ch) && eqL (chL x.kids) (chL y.kids)))):=HE.out.trans (by rw[h1];rfl)
    clear h1 HS1
    go_wp2_with fail
    have hx1:=(HXS.out w1 HW1.out).1
    have hy1:=(HXS.out w1 HW1.out).2
    refine(zoI x.A x.n x.c x.atts y.A y.n y.c y.atts w1 hx1.att.lies (fun a ha=>(hx1.atts a ha).ok) hx1.an (by have:=hx1.am;omega) hy1.att.lies (fun a ha=>(hy1.atts a ha).ok) hy1.an (by have:=hy1.am;omega)).mono ?_
    rintro e w2 ⟨rfl,hb2⟩
    clear a0 a1 a2 a3 a4 a5 c0 c1 c2 c3 c4 c5 hx1 hy1
    have HB2:Hid (Below w0.heap.size w0 w2):=zb HB1.out (Nat.le_refl _) hb2
    obtain⟨⟨a0,a1,a2,a3,a4,a5,c0,c1,c2,c3,c4,c5⟩,hB2⟩:=HV.out w2 HB2.out
    have HW2:=Lib.hid hB2
    clear hb2 hB2
    cases h2:zfl (x.atts.map AT.ch) (y.atts.map AT.ch) with
    | false=>
      have HR:Hid (x.ch.eqT y.ch=false):=HR1.out.trans (by rw[h2];rfl)
      clear h2
      go_wp2_with fail
      go_ret
      exact⟨by rw[HR.out];rfl,HW2.out⟩
    | true=>
      have HR2:Hid (x.ch.eqT y.ch=(decide (x.text.ch=y.text.ch) && eqL (chL x.kids) (chL y.kids))):=HR1.out.trans (by rw[h2];rfl)
      clear h2
      go_wp2_with fail
      refine(zfr x.text y.text w2 (HXS.out w2 HW2.out).1.text.ok (HXS.out w2 HW2.out).2.text.ok).mono ?_
      rintro e w3 ⟨rfl,hb3⟩
      clear a0 a1 a2 a3 a4 a5 c0 c1 c2 c3 c4 c5
      have HB3:Hid (Below w0.heap.size w0 w3):=zb HB2.out (Nat.le_refl _) hb3
      obtain⟨⟨a0,a1,a2,a3,a4,a5,c0,c1,c2,c3,c4,c5⟩,hB3⟩:=HV.out w3 HB3.out
      have HW3:=Lib.hid hB3
      clear hb3 hB3
      have HS3:Hid (zfT x.text y.text=decide (x.text.ch=y.text.ch)):=zfu _ _
      rw[HS3.out]
      cases h3:decide (x.text.ch=y.text.ch) with
      | false=>
        have HR:Hid (x.ch.eqT y.ch=false):=HR2.out.trans (by rw[h3];rfl)
        clear h3 HS3
        go_wp2_with fail
        go_ret
        exact⟨by rw[HR.out];rfl,HW3.out⟩
      | true=>
        have HR3:Hid (x.ch.eqT y.ch=eqL (chL x.kids) (chL y.kids)):=HR2.out.trans (by rw[h3];rfl)
        clear h3 HS3
        go_wp2_with fail
        refine(HK.out w3 HW3.out).mono ?_
        rintro e w4 ⟨rfl,hb4⟩
        have HW4:Hid (Below w.heap.size w w4):=zb HW3.out (Nat.le_refl _) hb4
        clear hb4
        go_wp2_with fail
        go_ret
        exact⟨by rw[HR3.out];rfl,HW4.out⟩
theorem zns:∀ (Q:List PT) (A:Option Addr) (n c:Nat) (ts:List TT) (B:Option Addr) (m d:Nat) (us:List TT) (w:World),chL ts=Q->TreesAt w A n ts->TreesAt w B m us->
    Calls Tryz.prog 55 #[.slice A n c,.slice B m d] w fun e w'=>e=.returned (.bool (eqL (chL ts) (chL us)))/\Below w.heap.size w w':=by
  apply PT.ind
  intro Q IH A n c ts B m d us w hq h1 h2
  have HC:=Lib.hid (zis A n c ts B m d us w h1 h2 (fun x y w' hx hy hb=>znr x y w' ((h1.2.1.keep (Stays.of hb)).get hx) ((h2.2.1.keep (Stays.of hb)).get hy) (fun w'' hb'=>by
    have hb2:=zb hb (Nat.le_refl _) hb'
    have hx2:=(h1.2.1.keep (Stays.of hb2)).get hx
    have hy2:=(h2.2.1.keep (Stays.of hb2)).get hy
    exact IH x.ch (by rw[<-hq,zch];exact List.mem_map.2 ⟨x,hx,rfl⟩) x.K x.kn x.kc x.kids y.K y.kn y.kc y.kids w'' (TT.ch_kids x).symm ⟨hx2.kid.lies,(h1.2.1.keep (Stays.of hb2)).kids hx,hx2.kn,hx2.km⟩ ⟨hy2.kid.lies,(h2.2.1.keep (Stays.of hb2)).kids hy,hy2.kn,hy2.km⟩)))
  clear h1 h2 hq IH
  go_enter Tryz.func55,Tryz.ntmps55
  go_wp2_with fail
  refine HC.out.mono ?_
  rintro e w1 ⟨rfl,hb1⟩
  have HB1:=Lib.hid hb1
  clear hb1 HC
  go_wp2_with fail
  go_ret
  exact⟨rfl,HB1.out⟩
theorem zeg(A:Option Addr)(n c:Nat)(ts:List TT)(w:World)(h:TreesIn0 w A n ts) :
    Calls Tryz.prog 22 #[.slice A n c] w (TellsT (fun b=>w.heap.size<=b) (zj (chL ts)) w):=by
  have HC:=Lib.hid (znq ztE rfl (chL ts) (fun b=>b < w.heap.size) A n c ts w rfl h.bulk h.lies h.all h.len (fun _ h=>h))
  rw[zpT]at HC
  clear h
  go_enter Tryz.func22,Tryz.ntmps22
  go_wp2_with fail
  refine HC.out.mono ?_
  rintro e w1 ⟨A1,c1,us,rfl,h1,h2,h3,hb⟩
  have HFIN:Hid (TellsT (fun b=>w.heap.size<=b) (zj (chL ts)) w (.returned (.slice A1 us.length c1)) w1):=⟨A1,c1,us,rfl,h1,h2,h3,hb⟩
  clear h1 h2 h3 hb HC
  go_wp2_with fail
  go_ret
  exact HFIN.out
theorem TellsT.at_{S:Nat->Prop}{w w':World}{A:Option Addr}{c:Nat}{us:List TT}{Q:List PT}(h1:w'.ownsRow w.heap.size 48 6 (.slice A us.length c) us.length (zf us))(h2:AllS S w' us)(h3:chL us=Q)(hz:Q.length<=1048576):TreesAt w' A us.length us:=
  ⟨Lies.own h1,h2.mono fun _ _ _=>trivial,rfl,by rw[<-h3,zx]at hz;exact hz⟩
theorem zjR(A:Option Addr)(n c:Nat)(ts:List TT)(B:Option Addr)(m d:Nat)(us:List TT)(w:World)(h:TreesIn0 w A n ts)(h':TreesIn0 w B m us) :
    Calls Tryz.prog 18 #[.slice A n c,.slice B m d] w fun e w'=>e=.returned (.bool (eqL (zj (chL ts)) (zj (chL us))))/\Below w.heap.size w w':=by
  have HA:=Lib.hid h
  have HB:=Lib.hid h'
  clear h h'
  go_enter Tryz.func18,Tryz.ntmps18
  go_wp2_with fail
  refine(zeg A n c ts w HA.out).mono ?_
  rintro e w1 ⟨A1,c1,xs,rfl,a1,a2,a3,hb1⟩
  have HT1:Hid (TreesAt w1 A1 xs.length xs):=TellsT.at_ a1 a2 a3.1 (Nat.le_trans (Nat.le_trans (zhX _) (zeb _)) HA.out.bulk)
  have H3:=Lib.hid a3
  have HB1:=Lib.hid hb1
  clear a1 a2 a3 hb1
  go_wp2_with fail
  refine(zeg B m d us w1 (HB.out.next HB1.out)).mono ?_
  rintro e w2 ⟨A2,c2,ys,rfl,a1,a2,a3,hb2⟩
  have HT2:Hid (TreesAt w2 A2 ys.length ys):=TellsT.at_ a1 a2 a3.1 (Nat.le_trans (Nat.le_trans (zhX _) (zeb _)) HB.out.bulk)
  have H4:=Lib.hid a3
  have HB2:Hid (Below w.heap.size w w2):=zb HB1.out (Nat.le_refl _) hb2
  have HE:=Lib.hid (zns _ A1 xs.length c1 xs A2 ys.length c2 ys w2 rfl (HT1.out.next hb2) HT2.out)
  clear a1 a2 a3 hb2
  go_wp2_with fail
  refine HE.out.mono ?_
  rintro e w3 ⟨rfl,hb3⟩
  have HB3:Hid (Below w.heap.size w w3):=zb HB2.out (Nat.le_refl _) hb3
  clear hb3 HE
  rw[H3.out.1,H4.out.1]
  go_wp2_with fail
  go_ret
  exact⟨rfl,HB3.out⟩
theorem zap{P:Program}{ops:Array Oper}{Q:Exit->Act->World->Prop}{S:World->Prop}{Z:Nat->Bool}{id:Nat}{a:Act}{w:World}(hm:P.follows .mixedOrders=true)
    (h:zcQ P .any ops Q S Z ops.size (Array.replicate ops.size false) a w.drew):(Code.region id ops true).wp P Q a w:=wp_region_any hm (zbe _ _ _ _ h)
def zt0(base g bm:Nat)(Ao Al:Option Addr)(fr:List TT)(w w':World):Prop:=∀ b,b < w.heap.size->¬ Live base g bm Ao Al fr b->w'.heap[b]?=w.heap[b]?
def zt1(S:Nat->Prop)(base g bm:Nat)(Ao:Option Addr)(co:Nat)(fs:List TT)(t:TT)(Al:Option Addr)(cl:Nat)(L:List PT)(mn:Nat)(f:List UInt8->Int)(w w':World):Prop:=
  ∃ (K':Option Addr) (kc':Nat) (ms:List TT),BldM S w' base g bm Ao co (fs++ [t.withK K' (t.kn+ms.length) kc' (t.kids++ ms)]) Al cl [] mn f/\chL ms=zj L/\Below base w w'/\zt0 base g bm Ao Al (fs++ [t]) w w'
theorem zeU{S:Nat->Prop}{base g bm co cl mn:Nat}{Ao Al:Option Addr}{fs ls:List TT}{t:TT}{f:List UInt8->Int}(w:World)(h:BldM S w base g bm Ao co (fs++ [t]) Al cl ls mn f)(hq:bkL (chL ls)<=1048576)(hk:t.kn<=1048576)(hf:fs.length<=1048576) :
    Calls Tryz.prog 32 #[.pointer (some ⟨g,0,none⟩)] w fun e w'=>e=.returned (.tuple #[])/\zt1 S base g bm Ao co fs t Al cl (chL ls) mn f w w':=by
  obtain⟨i0,hi,hz0,hz1,hz2⟩:=info_parts zcs
  have H:=Lib.hid h
  obtain⟨bo,hao,hbo,_,_,_,k3,_,_,kf⟩:=h.cellsL
  have c1:=h.at1
  have c0:=h.at0
  have hnl:(fs++ [t]).length=fs.length+1:=by rw[List.length_append];rfl
  have hgw:=h.box.lt
  have hls:ls.length<=1048576:=by
    have h1:=zaJ (chL ls)
    rw[zx]at h1
    omega
  have HLA:=Lib.hid (zcO g bo fs.length (fs++ [t]).length co w hnl (by rw[<-hao];exact c0) (by omega))
  have HMG:Hid (∀ V,Below w.heap.size w V->Calls Tryz.prog 22 #[.slice Al ls.length cl] V (TellsT (fun b=>V.heap.size<=b) (zj (chL ls)) V)):=fun V hV=>by
    have h1:=H.out.below hV
    exact zeg Al ls.length cl ls V ⟨(zdF h1.loo).mono (fun _ _ hb=>hb),h1.lso.mono (fun _ _ hb=>hb),rfl,hq⟩
  have HKF:Hid (∀ V,Below w.heap.size w V->V.cell? ⟨bo,fs.length * 6+3,none⟩=some (.slice t.K t.kn t.kc)/\V.cell? ⟨g,1,none⟩=some (.slice Al ls.length cl)):=fun V hV=>⟨(hV.cell hbo).trans k3,(H.out.below hV).at1⟩
  have HQL:=Lib.hid hq
  have HKFR:=Lib.hid kf
  have HAO:=Lib.hid hao
  clear h hq c0 c1 k3 kf hao
  go_enter Tryz.func32,Tryz.ntmps32
  go_wp2_with fail
  refine HLA.out.mono ?_
  rintro e w0 ⟨rfl,n0,rfl⟩
  have HB0:Hid (Below w.heap.size w (w.drewN n0)):=(Below.refl _ _).drewN n0
  generalize w.drewN n0=w0 at *
  go_upto_region 1 with fail
  go_cut [] (fun wx=>∃ (K':Option Addr) (kc':Nat) (ms:List TT),BldM S wx base g bm Ao co (fs++ [t.withK K' (t.kn+ms.length) kc' (t.kids++ ms)]) Al cl ls mn f/\chL ms=zj (chL ls)/\Below base w wx/\zt0 base g bm Ao Al (fs++ [t]) w wx)
  case first=>
    obtain⟨c3,c1⟩:=HKF.out w0 HB0.out
    have hS:w0.drew.cell? ⟨bo,fs.length * 6+3,none⟩=some (.slice t.K t.kn t.kc)/\w0.drew.cell? ⟨g,1,none⟩=some (.slice Al ls.length cl):=⟨c3,c1⟩
    refine zap (S:=(fun V=>V.cell? ⟨bo,fs.length * 6+3,none⟩=some (.slice t.K t.kn t.kc)/\V.cell? ⟨g,1,none⟩=some (.slice Al ls.length cl))) (Z:=(fun i=>decide (11<=i))) (by kernel_rfl) ?_
    refine' zc (i:=0) ?i1 (by kernel_rfl) (by kernel_rfl) (by kernel_rfl) (by kernel_rfl) ?q1 ?y1 hS ?r1
    case i1=>simp only[zlD,zlE];rfl
    case q1=>exact fun _ _ _ h=>h
    case y1=>
      refine Or.inl ⟨by rfl,?_⟩
      intro wq hq
      try dsimp only at hq
      try obtain⟨hq0,hq1⟩:=hq
      go_simp
      try with_reducible rfl
    try simp only[Act.put,zlA,zlB,zlC]
    refine' zc (i:=1) ?i2 (by kernel_rfl) (by kernel_rfl) (by kernel_rfl) (by kernel_rfl) ?q2 ?y2 hS ?r2
    case i2=>simp only[zlD,zlF,zlE];rfl
    case q2=>exact fun _ _ _ h=>h
    case y2=>
      refine Or.inl ⟨by rfl,?_⟩
      intro wq hq
      try dsimp only at hq
      try obtain⟨hq0,hq1⟩:=hq
      go_simp
      try with_reducible rfl
    try simp only[Act.put,zlA,zlB,zlC]
    refine' zc (i:=2) ?i3 (by kernel_rfl) (by kernel_rfl) (by kernel_rfl) (by kernel_rfl) ?q3 ?y3 hS ?r3
    case i3=>simp only[zlD,zlF,zlE];rfl
    case q3=>exact fun _ _ _ h=>h
    case y3=>
      refine Or.inl ⟨by rfl,?_⟩
      intro wq hq
      try dsimp only at hq
      try obtain⟨hq0,hq1⟩:=hq
      go_simp
      try with_reducible rfl
    try simp only[Act.put,zlA,zlB,zlC]
    refine' zc (i:=3) ?i4 (by kernel_rfl) (by kernel_rfl) (by kernel_rfl) (by kernel_rfl) ?q4 ?y4 hS ?r4
    case i4=>simp only[zlD,zlF,zlE];rfl
    case q4=>exact fun _ _ _ h=>h
    case y4=>
      refine Or.inl ⟨by rfl,?_⟩
      intro wq hq
      try dsimp only at hq
      try obtain⟨hq0,hq1⟩:=hq
      go_simp
      try with_reducible rfl
    try simp only[Act.put,zlA,zlB,zlC]
    refine' zc (i:=4) ?i5 (by kernel_rfl) (by kernel_rfl) (by kernel_rfl) (by kernel_rfl) ?q5 ?y5 hS ?r5
    case i5=>simp only[zlD,zlF,zlE];rfl
    case q5=>exact fun _ _ _ h=>h
    case y5=>
      refine Or.inl ⟨by rfl,?_⟩
      intro wq hq
      try dsimp only at hq
      try obtain⟨hq0,hq1⟩:=hq
      go_simp
      try with_reducible rfl
    try simp only[Act.put,zlA,zlB,zlC]
    refine' zc (i:=5) ?i6 (by kernel_rfl) (by kernel_rfl) (by kernel_rfl) (by kernel_rfl) ?q6 ?y6 hS ?r6
    case i6=>simp only[zlD,zlF,zlE];rfl
    case q6=>exact fun _ _ _ h=>h
    case y6=>
      refine Or.inl ⟨by rfl,?_⟩
      intro wq hq
      try dsimp only at hq
      try obtain⟨hq0,hq1⟩:=hq
      go_simp
      try with_reducible rfl
    try simp only[Act.put,zlA,zlB,zlC]
    refine' zc (i:=6) ?i7 (by kernel_rfl) (by kernel_rfl) (by kernel_rfl) (by kernel_rfl) ?q7 ?y7 hS ?r7
    case i7=>simp only[zlD,zlF,zlE];rfl
    case q7=>exact fun _ _ _ h=>h
    case y7=>
      refine Or.inl ⟨by rfl,?_⟩
      intro wq hq
      try dsimp only at hq
      try obtain⟨hq0,hq1⟩:=hq
      go_simp
      try with_reducible rfl
    try simp only[Act.put,zlA,zlB,zlC]
    refine' zc (i:=7) ?i8 (by kernel_rfl) (by kernel_rfl) (by kernel_rfl) (by kernel_rfl) ?q8 ?y8 hS ?r8
    case i8=>simp only[zlD,zlF,zlE];rfl
    case q8=>exact fun _ _ _ h=>h
    case y8=>
      refine Or.inl ⟨by rfl,?_⟩
      intro wq hq
      try dsimp only at hq
      try obtain⟨hq0,hq1⟩:=hq
      go_simp
      try with_reducible rfl
    try simp only[Act.put,zlA,zlB,zlC]
    refine' zc (i:=8) ?i9 (by kernel_rfl) (by kernel_rfl) (by kernel_rfl) (by kernel_rfl) ?q9 ?y9 hS ?r9
    case i9=>simp only[zlD,zlF,zlE];rfl
    case q9=>exact fun _ _ _ h=>h
    case y9=>
      refine Or.inl ⟨by rfl,?_⟩
      intro wq hq
      try dsimp only at hq
      try obtain⟨hq0,hq1⟩:=hq
      go_simp
      try with_reducible rfl
    try simp only[Act.put,zlA,zlB,zlC]
    refine za (rs:=[9]) (by kernel_rfl) (by simp) ?_
    refine' ReadyL.cons ?o10 (fun K hK=>?s10) ReadyL.nil
    case o10=>simp only[zlD,zlF,zlE];rfl
    go_simp
    refine(HMG.out _ (HB0.out.trans (Below.drew (Below.refl _ _)))).mono ?_
    rintro e w1 ⟨A1,c1',ms,rfl,ho1,hm1,⟨hq1,_⟩,hb1⟩
    have hb01:Below w.heap.size w w1:=HB0.out.trans (((Below.drew (Below.refl w0.heap.size w0)).trans hb1).mono HB0.out.size)
    have H1:=Lib.hid (H.out.below hb01)
    have HM1:=Lib.hid hm1
    have HQ1:=Lib.hid hq1
    have HO1:=Lib.hid ho1
    have HB1:=Lib.hid hb01
    have HZ1:Hid (w0.heap.size<=w1.heap.size):=hb1.size
    have hm2:ms.length<=1048576:=by
      have h1:(chL ms).length=ms.length:=zx ms
      have h2:=zaJ (zj (chL ls))
      have h3:=zdZ (chL ls)
      rw[hq1]at h1
      have:=HQL.out
      omega
    have hA1:A1=none->c1'=0:=by
      obtain⟨_,_,ev,hA,_⟩:=zg ho1
      injection ev with e1 e2 e3
      subst e1 e3
      exact hA
    refine hK.out _ _ (.inr (HKF.out w1 hb01)) ?_
    obtain⟨c3',c1''⟩:=HKF.out w1 hb01
    clear hK K hb1 hb01 hS c3 c1 ho1 hm1 hq1
    have hS:w1.cell? ⟨bo,fs.length * 6+3,none⟩=some (.slice t.K t.kn t.kc)/\w1.cell? ⟨g,1,none⟩=some (.slice Al ls.length cl):=⟨c3',c1''⟩
    clear c3' c1''
    try simp only[Act.put,zlA,zlB,zlC]
    refine za (rs:=[10]) (by kernel_rfl) (by simp) ?_
    refine' ReadyL.cons ?o11 (fun K hK=>?s11) ReadyL.nil
    case o11=>simp only[zlD,zlF,zlE];rfl
    refine zR _ (by rfl) (.tmp 9) (.tmp 14) 27 (by rfl) base 48 i0 _ 6 128 Tryz.underlying27 hi hz0 hz1 hz2 rfl (by omega) (.slice t.K t.kn t.kc) t.kn _ (by rfl) (H1.out.kid t (by simp)) _ A1 ms.length c1' (zf ms) (by rfl) hA1 (zat ms) (Lies.own HO1.out) (zd5 ms) (by simp only[maxLen];omega) (by omega) H1.out.bw ?_
    intro v2 w2 hown2 hgr2 hbl2
    obtain⟨K',kc',rfl,_,_,_⟩:=zg hown2
    rw[zq]at hgr2
    rw[zq,zq]at hbl2
    have hlive:AllS (fun b=>¬ Live base g bm Ao Al (fs++ [t]) b) w1 ms:=HM1.out.mono fun b hb _ hlv=>by
      have hb':w.heap.size<=b:=Nat.le_trans HB0.out.size hb
      rcases hlv with e | e | e | e | ⟨x,hx,e⟩ | e
      . omega
      . have:=H.out.map.lt;omega
      . have:=(H.out.opn.lt b (by rw[zq];exact e)).2;omega
      . have:=(H.out.loo.lt b (by rw[zq];exact e)).2;omega
      . have:=((H.out.kid x hx).lt b (by rw[zq];exact e)).2;omega
      . have:=H.out.bw;omega
    have HM2:=Lib.hid (H1.out.settle hlive hgr2 hbl2 hown2 HAO.out)
    have hbo1:bo < w1.heap.size:=Nat.lt_of_lt_of_le hbo HB1.out.size
    have hne:some bo≠blkA t.K:=fun e=>(H1.out.ap1 bo (by rw[HAO.out];rfl)).2 t (by simp) e.symm
    have hbk:w2.heap[bo]?=w1.heap[bo]?:=hgr2.block bo hbo1 hne
    have hbb:base<=bo:=(H1.out.opn.lt bo (by rw[zq,HAO.out];rfl)).1
    have HB2:Hid (Below base w (w2.setCell ⟨bo,fs.length * 6+3,none⟩ (.slice K' (t.kn+ms.length) kc'))):=by
      have h1:Below base w w1:=HB1.out.mono H.out.bw
      have h2:Below base w1 w2:=(Below.refl base w1).grown hgr2 H1.out.bw (fun k hk=>((H1.out.kid t (by simp)).lt k (by rw[zq];exact hk)).1)
      exact(h1.trans h2).setCell hbb _
    have HST2:Hid (zt0 base g bm Ao Al (fs++ [t]) w (w2.setCell ⟨bo,fs.length * 6+3,none⟩ (.slice K' (t.kn+ms.length) kc'))):=fun b hb hlv=>by
      have hbo':b≠bo:=fun e=>hlv (.inr (.inr (.inl (by rw[HAO.out,e];rfl))))
      refine(Below.heap_setCell w2 _ _ b hbo').trans ((hgr2.block b (Nat.lt_of_lt_of_le hb HB1.out.size) fun e=>hlv (.inr (.inr (.inr (.inr (.inl ⟨t,by simp,e.symm⟩)))))).trans (HB1.out.block b hb))
    have k3:w2.cell? ⟨bo,fs.length * 6+3,none⟩=some (.slice t.K t.kn t.kc):=(World.cell?_of_block hbk).trans hS.1
    have kf3:w2.frozen? ⟨bo,fs.length * 6+3,none⟩=false:=by
      obtain⟨bo',e',_,_,_,_,_,_,_,hfz⟩:=H1.out.cellsL
      rw[HAO.out]at e'
      injection e' with e'
      injection e' with e'
      subst e'
      exact(World.frozen?_of_block hbk).trans (hfz _)
    have k1:w2.cell? ⟨g,1,none⟩=some (.slice Al ls.length cl):=by
      have hg1:w2.heap[g]?=w1.heap[g]?:=hgr2.block g H1.out.box.lt fun e=>(H1.out.notg (H1.out.kid t (by simp)) e.symm).1 rfl
      exact(World.cell?_of_block hg1).trans hS.2
    refine hK.out _ _ (.inr ⟨k3,k1⟩) ?_
    clear hK K hown2 hgr2 hbl2 hlive hbk hS
    try simp only[Act.put,zlA,zlB,zlC]
    refine za (rs:=[11]) (by kernel_rfl) (by simp) ?_
    refine' ReadyL.cons ?o12 (fun K hK=>?s12) ReadyL.nil
    case o12=>simp only[zlD,zlF,zlE];rfl
    go_simp
    refine hK.out _ _ (.inl (by decide)) ?_
    clear hK K
    try simp only[Act.put,zlA,zlB,zlC]
    refine za (rs:=[12]) (by kernel_rfl) (by simp) ?_
    refine' ReadyL.cons ?o13 (fun K hK=>?s13) ReadyL.nil
    case o13=>simp only[zlD,zlF,zlE];rfl
    go_simp
    refine hK.out _ _ (.inl (by decide)) ?_
    clear hK K
    try simp only[Act.put,zlA,zlB,zlC]
    refine za (rs:=[13]) (by kernel_rfl) (by simp) ?_
    refine' ReadyL.cons ?o14 (fun K hK=>?s14) ReadyL.nil
    case o14=>simp only[zlD,zlF,zlE];rfl
    go_simp
    refine hK.out _ _ (.inl (by decide)) ?_
    clear hK K
    try simp only[Act.put,zlA,zlB,zlC]
    refine zi (by kernel_rfl) ?_ _
    go_wp2_with fail
    go_meet
    exact⟨K',kc',ms,HM2.out,HQ1.out,HB2.out,HST2.out⟩
  case rest=>
    obtain⟨K',kc',ms,hM,hqm,hbw,hstl⟩:=hcut
    have HSTL:=Lib.hid hstl
    have c1:=hM.at1
    have cf1:=hM.box.free 1
    have HMM:=Lib.hid hM
    have HQM:=Lib.hid hqm
    have HBW:=Lib.hid hbw
    have hgb:base<=g:=hM.gb.1
    clear hM hqm hbw hstl HMG HKF HLA
    go_wp2_with fail
    go_end0
    exact⟨rfl,K',kc',ms,HMM.out.noLoose,HQM.out,HBW.out.setCell (p:=⟨g,1,none⟩) hgb _,fun b hb hlv=>(Below.heap_setCell wc _ _ b (fun e=>hlv (.inl e))).trans (HSTL.out b hb hlv)⟩
theorem zgz{H:Type}{P:Program}(w:World){ops:Array Oper}{o:Oper}{a:Act}{K:Act->World->Prop}{Q:Exit->Act->World->Prop}{E:Prop}(hg:o.guard=none)(m x:Operand)(t:TypeId)(hop:o.op=Op.lookup t m x false)
    (k e:TypeId) (q:IntKind) (KK:Go.Maps.Keyed P k) (ht:P.underlying t=some (.map k e)) (he:P.underlying e=some (.int q)) (hz:(zeroValue e).run P w=.ok (.int q 0) w) (b n:Nat) (D:DataW H)
    (hm:a.eval m=.map (some b)) (hown:w.ownsMap P k (plainElem P e) b n D) (key:Value) (kl:Lit) (hx:a.eval x=key) (hkey:keyOf P k key=some kl)
    (hK:∀ c:Int,D.atKey kl (.lit (.int q 0))=.lit (.int q c)->(Lit.int q c).wf=true->K (a.put o.dst (.int q c)) w) :
    if Region.wanted o (yielded ops a.tmps)=true then Oper.wp P o a w K Q else E:=by
  have hw:Region.wanted o (yielded ops a.tmps)=true:=by simp [Region.wanted,hg]
  rw[if_pos hw]
  obtain⟨c,hrun,hat,hwc⟩:=hown.lookup_int KK ht he hz hkey
  unfold Oper.wp
  simp [execOp,hop,hm,hx,hrun,Result.andThen]
  exact hK c hat hwc
theorem zgT{H:Type}{P:Program}(w:World){ops:Array Oper}{o:Oper}{a:Act}{K:Act->World->Prop}{Q:Exit->Act->World->Prop}{E:Prop}(hg:o.guard=none)(m x v:Operand)(t:TypeId)(hop:o.op=Op.mapUpdate t m x v)
    (k e:TypeId) (KK:Go.Maps.Keyed P k) (ht:P.underlying t=some (.map k e)) (R:Value->Option (DataW H × List MemPlace)) (b n:Nat) (D:DataW H)
    (hm:a.eval m=.map (some b)) (hown:w.ownsMap P k R b n D) (hn:n < maxLen) (key val:Value) (kl:Lit) (hx:a.eval x=key) (hv:a.eval v=val) (hkey:keyOf P k key=some kl)
    (d:DataW H) (ps:List MemPlace) (hval:R val=some (d,ps))
    (hK:∀ w',w'.ownsMap P k R b (n+1) (D.put kl d)->w.grownBy w' (some b)->K (a.put o.dst undef) w') :
    if Region.wanted o (yielded ops a.tmps)=true then Oper.wp P o a w K Q else E:=by
  have hw:Region.wanted o (yielded ops a.tmps)=true:=by simp [Region.wanted,hg]
  rw[if_pos hw]
  obtain⟨w',hrun,r1,r2⟩:=hown.update KK ht hn hkey hval
  unfold Oper.wp
  simp [execOp,hop,hm,hx,hv,hrun,Result.andThen]
  exact hK w' r1 r2
theorem znt{S:Nat->Prop}{base g bm co cl mn:Nat}{Ao Al:Option Addr}{fs ls:List TT}{a t:TT}{f:List UInt8->Int}(w:World)(h:BldM S w base g bm Ao co (fs++ [a]++ [t]) Al cl ls mn f)(hq:t.kn+bkL (chL ls)<=1048576)(ha:a.kn<=1048575)(hf:fs.length<=1048575)(hmn:mn<=4294967296)(hfn:-4294967296<=f t.tag.bs/\f t.tag.bs<=4294967296) :
    Calls Tryz.prog 31 #[.pointer (some ⟨g,0,none⟩)] w fun e w'=>e=.returned (.tuple #[])/\∃ (K':Option Addr) (kc':Nat) (t':TT),BldM S w' base g bm Ao co (fs++ [a.withK K' (a.kn+1) kc' (a.kids++ [t'])]) Al cl [] (mn+1) (upd f t.tag.bs (f t.tag.bs - 1))/\t'.ch=zI t.ch (chL ls)/\Below base w w':=by
  obtain⟨i0,hi,hz0,hz1,hz2⟩:=info_parts zcs
  have HSET:=Lib.hid (zeU w h (by omega) (by omega) (by rw[List.length_append];show fs.length+1<=_;omega))
  have htx:=(h.head t (by simp)).blank
  have HTX:=Lib.hid htx
  have hgb:base<=g/\base<=bm:=h.gb
  clear h htx
  go_enter Tryz.func31,Tryz.ntmps31
  go_wp2_with fail
  refine HSET.out.mono ?_
  rintro e w1 ⟨rfl,K1,kc1,ms,hM1,hqm,hb1,_⟩
  have hms:t.kn+ms.length<=1048576:=by
    have h1:(chL ms).length=ms.length:=zx ms
    have h2:=zaJ (zj (chL ls))
    have h3:=zdZ (chL ls)
    rw[hqm]at h1
    omega
  have HT1:Hid ((t.withK K1 (t.kn+ms.length) kc1 (t.kids++ ms)).ch=zI t.ch (chL ls)):=by
    show TT.ch _=_
    rw[TT.ch_eq]
    show PT.mk t.tag.ch (t.atts.map AT.ch) (chL (t.kids++ ms)) t.text.ch=PT.mk t.ch.tag t.ch.attrs (t.ch.kids++ zj (chL ls)) []
    rw[TT.ch_tag,TT.ch_attrs,TT.ch_kids,zr,hqm,HTX.out]
  have htag:(t.withK K1 (t.kn+ms.length) kc1 (t.kids++ ms)).tag=t.tag:=rfl
  have hkn1:(t.withK K1 (t.kn+ms.length) kc1 (t.kids++ ms)).kn<=1048576:=hms
  generalize t.withK K1 (t.kn+ms.length) kc1 (t.kids++ ms)=t1 at *
  have H1:=Lib.hid hM1
  have HB1:=Lib.hid hb1
  have HTAG:=Lib.hid htag
  obtain⟨bo,hao,hbo,k0,k1,k2,k3,k4,k5,kf⟩:=hM1.cellsL
  have hnl:(fs++ [a]++ [t1]).length=(fs++ [a]).length+1:=by rw[List.length_append];rfl
  have hnl2:(fs++ [a]).length=fs.length+1:=by rw[List.length_append];rfl
  have HLA:=Lib.hid (zcO g bo (fs++ [a]).length (fs++ [a]++ [t1]).length co w1 hnl (by rw[<-hao];exact hM1.at0) (by omega))
  rw[hnl2]at k0 k1 k2 k3 k4 k5 HLA
  clear hM1 hb1 hqm hms HSET htag
  go_wp2_with fail
  refine HLA.out.mono ?_
  rintro e w2 ⟨rfl,n2,hw2⟩
  have hb12:Below w1.heap.size w1 w2:=by rw[hw2];exact(Below.refl _ _).drewN n2
  clear hw2 HLA
  have k0':=(hb12.cell (p:=⟨bo,(fs.length+1) * 6,none⟩) hbo).trans k0
  have k1':=(hb12.cell (p:=⟨bo,(fs.length+1) * 6+1,none⟩) hbo).trans k1
  have k2':=(hb12.cell (p:=⟨bo,(fs.length+1) * 6+2,none⟩) hbo).trans k2
  have k3':=(hb12.cell (p:=⟨bo,(fs.length+1) * 6+3,none⟩) hbo).trans k3
  have k4':=(hb12.cell (p:=⟨bo,(fs.length+1) * 6+4,none⟩) hbo).trans k4
  have k5':=(hb12.cell (p:=⟨bo,(fs.length+1) * 6+5,none⟩) hbo).trans k5
  clear k0 k1 k2 k3 k4 k5
  go_upto_region 2 with fail
  generalize hw3:w2.alloc (.cells #[.string t1.tag.s,.slice t1.tag.A t1.tag.n t1.tag.c,.slice t1.A t1.n t1.c,.slice t1.K t1.kn t1.kc,.string t1.text.s,.slice t1.text.A t1.text.n t1.text.c] 48)=w3
  have y3:Hid (Whole w3 w2.heap.size 48 #[.string t1.tag.s,.slice t1.tag.A t1.tag.n t1.tag.c,.slice t1.A t1.n t1.c,.slice t1.K t1.kn t1.kc,.string t1.text.s,.slice t1.text.A t1.text.n t1.text.c]):=by rw[<-hw3];exact Whole.made _ _ _
  have hb23:Below w2.heap.size w2 w3:=by rw[<-hw3];exact(Below.refl _ _).alloc (Nat.le_refl _) _
  have hz12:=hb12.size
  have H3:=Lib.hid (H1.out.below (hb12.trans (hb23.mono hz12)))
  have HB3:Hid (Below base w w3):=HB1.out.trans ((hb12.trans (hb23.mono hz12)).mono H1.out.bw)
  have heb:w1.heap.size<=w2.heap.size:=hz12
  generalize hebb:w2.heap.size=eb at *
  clear hw3 hb23 hb12 k0' k1' k2' k3' k4' k5' kf hebb hz12
  obtain⟨x,hx⟩:∃ x,f t.tag.bs=x:=⟨_,rfl⟩
  have HX:=Lib.hid hx
  rw[hx]at hfn
  have hbs:t1.tag.s.data.toList=t.tag.bs:=by rw[HTAG.out];rfl
  have hkey:keyOf Tryz.prog 9 (.string t1.tag.s)=some (.string t.tag.bs):=by
    rw[<-hbs]
    have:=((H1.out.head t1 (by simp)).tag.ok).2.2.2
    exact WideMaps.keyOf_string_mk Tryz.underlying9 (by simp only[maxLen];omega)
  have hw1:IntKind.i64.wrap (x - 1)=x - 1:=IntWalk.i64_in _ (by omega)
  clear hx hbs
  go_cut [] (fun wx=>BldM S wx base g bm Ao co (fs++ [a]++ [t1]) Al cl [] (mn+1) (upd f t.tag.bs (x - 1))/\Below base w wx/\Whole wx eb 48 #[.string t1.tag.s,.slice t1.tag.A t1.tag.n t1.tag.c,.slice t1.A t1.n t1.c,.slice t1.K t1.kn t1.kc,.string t1.text.s,.slice t1.text.A t1.text.n t1.text.c])
  case first=>
    have hS:w3.drew.cell? ⟨g,2,none⟩=some (.map (some bm))/\w3.drew.cell? ⟨eb,0,none⟩=some (.string t1.tag.s):=⟨H3.out.at2,y3.out.at_ 0⟩
    refine zap (S:=(fun V=>V.cell? ⟨g,2,none⟩=some (.map (some bm))/\V.cell? ⟨eb,0,none⟩=some (.string t1.tag.s))) (Z:=(fun i=>decide (9<=i))) (by kernel_rfl) ?_
    refine' zc (i:=0) ?i1 (by kernel_rfl) (by kernel_rfl) (by kernel_rfl) (by kernel_rfl) ?q1 ?y1 hS ?r1
    case i1=>simp only[zlD,zlE];rfl
    case q1=>exact fun _ _ _ h=>h
    case y1=>
      refine Or.inl ⟨by rfl,?_⟩
      intro wq hq
      try dsimp only at hq
      try obtain⟨hq0,hq1⟩:=hq
      go_simp
      try with_reducible rfl
    try simp only[Act.put,zlA,zlB,zlC]
    refine' zc (i:=1) ?i2 (by kernel_rfl) (by kernel_rfl) (by kernel_rfl) (by kernel_rfl) ?q2 ?y2 hS ?r2
    case i2=>simp only[zlD,zlF,zlE];rfl
    case q2=>exact fun _ _ _ h=>h
    case y2=>
      refine Or.inl ⟨by rfl,?_⟩
      intro wq hq
      try dsimp only at hq
      try obtain⟨hq0,hq1⟩:=hq
      go_simp
      try with_reducible rfl
    try simp only[Act.put,zlA,zlB,zlC]
    refine' zc (i:=2) ?i3 (by kernel_rfl) (by kernel_rfl) (by kernel_rfl) (by kernel_rfl) ?q3 ?y3 hS ?r3
    case i3=>simp only[zlD,zlF,zlE];rfl
    case q3=>exact fun _ _ _ h=>h
    case y3=>
      refine Or.inl ⟨by rfl,?_⟩
      intro wq hq
      try dsimp only at hq
      try obtain⟨hq0,hq1⟩:=hq
      go_simp
      try with_reducible rfl
    try simp only[Act.put,zlA,zlB,zlC]
    refine' zc (i:=3) ?i4 (by kernel_rfl) (by kernel_rfl) (by kernel_rfl) (by kernel_rfl) ?q4 ?y4 hS ?r4
    case i4=>simp only[zlD,zlF,zlE];rfl
    case q4=>exact fun _ _ _ h=>h
    case y4=>
      refine Or.inl ⟨by rfl,?_⟩
      intro wq hq
      try dsimp only at hq
      try obtain⟨hq0,hq1⟩:=hq
      go_simp
      try with_reducible rfl
    try simp only[Act.put,zlA,zlB,zlC]
    refine' zc (i:=4) ?i5 (by kernel_rfl) (by kernel_rfl) (by kernel_rfl) (by kernel_rfl) ?q5 ?y5 hS ?r5
    case i5=>simp only[zlD,zlF,zlE];rfl
    case q5=>exact fun _ _ _ h=>h
    case y5=>
      refine Or.inl ⟨by rfl,?_⟩
      intro wq hq
      try dsimp only at hq
      try obtain⟨hq0,hq1⟩:=hq
      go_simp
      try with_reducible rfl
    try simp only[Act.put,zlA,zlB,zlC]
    refine' zc (i:=5) ?i6 (by kernel_rfl) (by kernel_rfl) (by kernel_rfl) (by kernel_rfl) ?q6 ?y6 hS ?r6
    case i6=>simp only[zlD,zlF,zlE];rfl
    case q6=>exact fun _ _ _ h=>h
    case y6=>
      refine Or.inl ⟨by rfl,?_⟩
      intro wq hq
      try dsimp only at hq
      try obtain⟨hq0,hq1⟩:=hq
      go_simp
      try with_reducible rfl
    try simp only[Act.put,zlA,zlB,zlC]
    refine' zc (i:=6) ?i7 (by kernel_rfl) (by kernel_rfl) (by kernel_rfl) (by kernel_rfl) ?q7 ?y7 hS ?r7
    case i7=>simp only[zlD,zlF,zlE];rfl
    case q7=>exact fun _ _ _ h=>h
    case y7=>
      refine Or.inl ⟨by rfl,?_⟩
      intro wq hq
      try dsimp only at hq
      try obtain⟨hq0,hq1⟩:=hq
      go_simp
      try with_reducible rfl
    try simp only[Act.put,zlA,zlB,zlC]
    refine za (rs:=[7]) (by kernel_rfl) (by simp) ?_
    refine' ReadyL.cons ?o8 (fun K hK=>?s8) ReadyL.nil
    case o8=>simp only[zlD,zlF,zlE];rfl
    obtain⟨D,hown,hD⟩:=(H3.out.below (Below.drew (Below.refl _ _))).map
    refine zgz _ (by rfl) (.tmp 13) (.tmp 16) 56 (by rfl) 9 3 .i64 zc5 Tryz.underlying56 Tryz.underlying3 (zkp _) bm mn D (by rfl) hown _ _ (by rfl) hkey ?_
    intro c hat hwc
    have hce:=(hD t.tag.bs).symm.trans hat
    injection hce with hce
    injection hce with _ hce
    rw[HX.out]at hce
    subst hce
    refine hK.out _ _ (.inr hS) ?_
    clear hK K hat hwc
    try simp only[Act.put,zlA,zlB,zlC]
    refine' zc (i:=8) ?i9 (by kernel_rfl) (by kernel_rfl) (by kernel_rfl) (by kernel_rfl) ?q9 ?y9 hS ?r9
    case i9=>simp only[zlD,zlF,zlE];rfl
    case q9=>exact fun _ _ _ h=>h
    case y9=>
      refine Or.inl ⟨by rfl,?_⟩
      intro wq hq
      try dsimp only at hq
      try obtain⟨hq0,hq1⟩:=hq
      go_simp
      try with_reducible rfl
    try simp only[Act.put,zlA,zlB,zlC]
    refine za (rs:=[9]) (by kernel_rfl) (by simp) ?_
    refine' ReadyL.cons ?o10 (fun K hK=>?s10) ReadyL.nil
    case o10=>simp only[zlD,zlF,zlE];rfl
    refine zgT _ (by rfl) _ _ _ 56 (by rfl) 9 3 zc5 Tryz.underlying56 _ bm mn D (by rfl) hown (by simp only[maxLen];omega) _ _ _ (by rfl) (by rfl) hkey _ [] (plainElem_int Tryz.underlying3 (WalkArith.wf_i64 (by omega))) ?_
    intro w4 hown4 hgr4
    have hM4:=MapF.put hown hD hown4
    have H4:=Lib.hid ((H3.out.below (Below.drew (Below.refl _ _))).count hgr4 hM4)
    have hgb2:=hgb.2
    have HB4:Hid (Below base w w4):=(HB3.out.trans (Below.drew (Below.refl base w3))).trans ((Below.refl base w3.drew).grown hgr4 H3.out.bw (fun k hk=>by injection hk with hk;omega))
    have hmlt:=H3.out.map.lt
    have y4:Whole w4 eb 48 #[.string t1.tag.s,.slice t1.tag.A t1.tag.n t1.tag.c,.slice t1.A t1.n t1.c,.slice t1.K t1.kn t1.kc,.string t1.text.s,.slice t1.text.A t1.text.n t1.text.c]:=y3.out.drew.grown hgr4 (fun e=>by
      injection e with e
      have:=H1.out.map.lt
      omega)
    refine hK.out _ _ (.inl (by decide)) ?_
    clear hK K hown hown4 hgr4 hM4
    try simp only[Act.put]
    refine zi (by kernel_rfl) ?_ _
    go_wp2_with fail
    go_meet
    exact⟨H4.out,HB4.out,y4⟩
  case rest=>
    obtain⟨hM4,hb4,y4⟩:=hcut
    have H4:=Lib.hid hM4
    have HB4:=Lib.hid hb4
    have Y4:=Lib.hid y4
    have hc0:=hM4.at0
    have hcf:=hM4.box.free 0
    obtain⟨_,_,ev,_,_,hNc⟩:=zg hM4.opn
    injection ev with _ _ e3
    subst e3
    rw[hao]at hc0
    obtain⟨m,hm⟩:∃ m,(fs++ [a]).length=m:=⟨_,rfl⟩
    obtain⟨N,hN⟩:∃ N,(fs++ [a]++ [t1]).length=N:=⟨_,rfl⟩
    rw[hN]at hc0 hNc hnl
    rw[hm]at hnl hnl2
    have hwN:IntKind.i64.wrap ((N:Int) - 1)=(m:Int):=by rw[show(N:Int) - 1=(m:Int) by omega];exact IntWalk.i64_in _ (by omega)
    have hwm:IntKind.i64.wrap (m:Int)=(m:Int):=IntWalk.i64_in _ (by omega)
    have hpN:(N:Int) - 1=(m:Int):=by omega
    have hm0:(0:Int)<=(m:Int):=Int.natCast_nonneg _
    have hmc:(m:Int)<=(co:Int):=by omega
    have HM:=Lib.hid hm
    have HAO:=Lib.hid hao
    have HN2:=Lib.hid hnl2
    have hmfs:m<=1048576:=by omega
    clear hM4 hb4 y4 y3 H3 HB3 hkey hfn hw1 hm hN hnl hao hnl2 hNc
    go_upto_region 3 with fail
    go_cut [] (fun wx=>BldM S wx base g bm Ao co (fs++ [a]) Al cl [] (mn+1) (upd f t.tag.bs (x - 1))/\AllS (fun b=>¬ Live base g bm Ao Al (fs++ [a]) b) wx [t1]/\Below base w wx/\Whole wx eb 48 #[.string t1.tag.s,.slice t1.tag.A t1.tag.n t1.tag.c,.slice t1.A t1.n t1.c,.slice t1.K t1.kn t1.kc,.string t1.text.s,.slice t1.text.A t1.text.n t1.text.c])
    case first=>
      obtain⟨hP1,hP2⟩:=(H4.out.below (Below.drew (Below.refl _ _))).pop hkn1
      rw[HM.out,HAO.out]at hP1 hP2
      have HP1:=Lib.hid hP1
      have HP2:=Lib.hid hP2
      have hS:wc.drew.cell? ⟨g,0,none⟩=some (.slice (some ⟨bo,0,none⟩) N co):=hc0
      clear hP1 hP2
      refine zap (S:=(fun V=>V.cell? ⟨g,0,none⟩=some (.slice (some ⟨bo,0,none⟩) N co))) (Z:=(fun i=>decide (12<=i))) (by kernel_rfl) ?_
      refine' zc (i:=0) ?i11 (by kernel_rfl) (by kernel_rfl) (by kernel_rfl) (by kernel_rfl) ?q11 ?y11 hS ?r11
      case i11=>simp only[zlD,zlE];rfl
      case q11=>exact fun _ _ _ h=>h
      case y11=>
        refine Or.inl ⟨by rfl,?_⟩
        intro wq hq
        try dsimp only at hq
        go_simp
        try with_reducible rfl
      try simp only[Act.put,zlA,zlB,zlC]
      refine' zc (i:=1) ?i12 (by kernel_rfl) (by kernel_rfl) (by kernel_rfl) (by kernel_rfl) ?q12 ?y12 hS ?r12
      case i12=>simp only[zlD,zlF,zlE];rfl
      case q12=>exact fun _ _ _ h=>h
      case y12=>
        refine Or.inl ⟨by rfl,?_⟩
        intro wq hq
        try dsimp only at hq
        go_simp
        try with_reducible rfl
      try simp only[Act.put,zlA,zlB,zlC]
      refine' zc (i:=2) ?i13 (by kernel_rfl) (by kernel_rfl) (by kernel_rfl) (by kernel_rfl) ?q13 ?y13 hS ?r13
      case i13=>simp only[zlD,zlF,zlE];rfl
      case q13=>exact fun _ _ _ h=>h
      case y13=>
        refine Or.inl ⟨by rfl,?_⟩
        intro wq hq
        try dsimp only at hq
        go_simp
        try with_reducible rfl
      try simp only[Act.put,zlA,zlB,zlC]
      refine' zc (i:=3) ?i14 (by kernel_rfl) (by kernel_rfl) (by kernel_rfl) (by kernel_rfl) ?q14 ?y14 hS ?r14
      case i14=>simp only[zlD,zlF,zlE];rfl
      case q14=>exact fun _ _ _ h=>h
      case y14=>
        refine Or.inl ⟨by rfl,?_⟩
        intro wq hq
        try dsimp only at hq
        go_simp
        try with_reducible rfl
      try simp only[Act.put,zlA,zlB,zlC]
      refine' zc (i:=4) ?i15 (by kernel_rfl) (by kernel_rfl) (by kernel_rfl) (by kernel_rfl) ?q15 ?y15 hS ?r15
      case i15=>simp only[zlD,zlF,zlE];rfl
      case q15=>exact fun _ _ _ h=>h
      case y15=>
        refine Or.inl ⟨by rfl,?_⟩
        intro wq hq
        try dsimp only at hq
        go_simp
        try with_reducible rfl
      try simp only[Act.put,zlA,zlB,zlC]
      refine' zc (i:=5) ?i16 (by kernel_rfl) (by kernel_rfl) (by kernel_rfl) (by kernel_rfl) ?q16 ?y16 hS ?r16
      case i16=>simp only[zlD,zlF,zlE];rfl
      case q16=>exact fun _ _ _ h=>h
      case y16=>
        refine Or.inl ⟨by rfl,?_⟩
        intro wq hq
        try dsimp only at hq
        go_simp
        try with_reducible rfl
      try simp only[Act.put,zlA,zlB,zlC]
      refine' zc (i:=6) ?i17 (by kernel_rfl) (by kernel_rfl) (by kernel_rfl) (by kernel_rfl) ?q17 ?y17 hS ?r17
      case i17=>simp only[zlD,zlF,zlE];rfl
      case q17=>exact fun _ _ _ h=>h
      case y17=>
        refine Or.inl ⟨by rfl,?_⟩
        intro wq hq
        try dsimp only at hq
        go_simp
        try with_reducible rfl
      try simp only[Act.put,zlA,zlB,zlC]
      refine' zc (i:=7) ?i18 (by kernel_rfl) (by kernel_rfl) (by kernel_rfl) (by kernel_rfl) ?q18 ?y18 hS ?r18
      case i18=>simp only[zlD,zlF,zlE];rfl
      case q18=>exact fun _ _ _ h=>h
      case y18=>
        refine Or.inl ⟨by rfl,?_⟩
        intro wq hq
        try dsimp only at hq
        go_simp
        try with_reducible rfl
      try simp only[Act.put,zlA,zlB,zlC]
      refine' zc (i:=8) ?i19 (by kernel_rfl) (by kernel_rfl) (by kernel_rfl) (by kernel_rfl) ?q19 ?y19 hS ?r19
      case i19=>simp only[zlD,zlF,zlE];rfl
      case q19=>exact fun _ _ _ h=>h
      case y19=>
        refine Or.inl ⟨by rfl,?_⟩
        intro wq hq
        try dsimp only at hq
        go_simp
        try with_reducible rfl
      try simp only[Act.put,zlA,zlB,zlC]
      refine' zc (i:=9) ?i20 (by kernel_rfl) (by kernel_rfl) (by kernel_rfl) (by kernel_rfl) ?q20 ?y20 hS ?r20
      case i20=>simp only[zlD,zlF,zlE];rfl
      case q20=>exact fun _ _ _ h=>h
      case y20=>
        refine Or.inl ⟨by rfl,?_⟩
        intro wq hq
        try dsimp only at hq
        go_simp
        try with_reducible rfl
      try simp only[Act.put,zlA,zlB,zlC]
      refine' zc (i:=10) ?i21 (by kernel_rfl) (by kernel_rfl) (by kernel_rfl) (by kernel_rfl) ?q21 ?y21 hS ?r21
      case i21=>simp only[zlD,zlF,zlE];rfl
      case q21=>exact fun _ _ _ h=>h
      case y21=>
        refine Or.inl ⟨by rfl,?_⟩
        intro wq hq
        try dsimp only at hq
        go_simp
        try with_reducible rfl
      try simp only[Act.put,zlA,zlB,zlC]
      refine za (rs:=[11]) (by kernel_rfl) (by simp) ?_
      refine' ReadyL.cons ?o22 (fun K hK=>?s22) ReadyL.nil
      case o22=>simp only[zlD,zlF,zlE];rfl
      go_simp
      refine hK.out _ _ (.inr hS) ?_
      clear hK K
      try simp only[Act.put,zlA,zlB,zlC]
      refine za (rs:=[12]) (by kernel_rfl) (by simp) ?_
      refine' ReadyL.cons ?o23 (fun K hK=>?s23) ReadyL.nil
      case o23=>simp only[zlD,zlF,zlE];rfl
      go_simp
      refine hK.out _ _ (.inl (by decide)) ?_
      clear hK K
      try simp only[Act.put,zlA,zlB,zlC]
      refine za (rs:=[13]) (by kernel_rfl) (by simp) ?_
      refine' ReadyL.cons ?o24 (fun K hK=>?s24) ReadyL.nil
      case o24=>simp only[zlD,zlF,zlE];rfl
      go_simp
      refine hK.out _ _ (.inl (by decide)) ?_
      clear hK K
      try simp only[Act.put,zlA,zlB,zlC]
      refine za (rs:=[14]) (by kernel_rfl) (by simp) ?_
      refine' ReadyL.cons ?o25 (fun K hK=>?s25) ReadyL.nil
      case o25=>simp only[zlD,zlF,zlE];rfl
      go_simp
      refine hK.out _ _ (.inl (by decide)) ?_
      clear hK K hS
      try simp only[Act.put]
      refine zi (by kernel_rfl) ?_ _
      go_wp2_with fail
      go_meet
      refine⟨by rw[HAO.out];exact HP1.out,by rw[HAO.out];exact HP2.out,(HB4.out.trans (Below.drew (Below.refl base wc))).setCell (p:=⟨g,0,none⟩) hgb.1 _,?_⟩
      refine Y4.out.drew.far _ (fun e=>?_) _
      have e:eb=g:=e
      have h1:=H4.out.box
      have h2:=Y4.out
      unfold Whole at h1 h2
      rw[e,h1]at h2
      injection h2 with h2
      injection h2 with _ h2 _
      exact absurd h2 (by decide)
    case rest=>
      obtain⟨hM5,hA5,hb5,y5⟩:=hcut
      have hc0:=hM5.at0
      rw[HM.out,HAO.out]at hc0
      have HLB:=Lib.hid (zcO g bo fs.length m co wc HN2.out hc0 (by omega))
      have H5:=Lib.hid hM5
      have HA5:=Lib.hid hA5
      have HB5:=Lib.hid hb5
      have Y5:=Lib.hid y5
      clear hM5 hA5 hb5 y5 hc0 H4 HB4 Y4 hwN hwm hpN hm0 hmc hcf
      go_wp2_with fail
      refine HLB.out.mono ?_
      rintro e w6 ⟨rfl,n6,hw6⟩
      have hb6:Below wc.heap.size wc w6:=by rw[hw6];exact(Below.refl _ _).drewN n6
      have H6:=Lib.hid (H5.out.below hb6)
      have HA6:Hid (AllS (fun b=>¬ Live base g bm Ao Al (fs++ [a]) b) w6 [t1]):=HA5.out.keep (Stays.of hb6)
      have HB6:Hid (Below base w w6):=HB5.out.trans (hb6.mono H5.out.bw)
      have y6:=Y5.out.below hb6 Y5.out.lt
      obtain⟨bo',e',hbo6,_,_,_,k3,_,_,kf⟩:=H6.out.cellsL
      rw[HAO.out]at e'
      injection e' with e'
      injection e' with e'
      subst e'
      clear hw6 hb6 HLB H5 HA5 HB5 Y5
      go_upto_region 5 with fail
      have hka:a.kids.length=a.kn:=H6.out.kln (by simp)
      have hka0:(0:Int)<=(a.kn:Int):=Int.natCast_nonneg _
      have hka1:(a.kn:Int) < ((a.kn+1:Nat):Int):=by omega
      have hka2:(a.kn:Int) < (a.kn:Int)+1:=by omega
      have hS:w6.drew.cell? ⟨bo,fs.length * 6+3,none⟩=some (.slice a.K a.kn a.kc)/\Whole w6.drew eb 48 #[.string t1.tag.s,.slice t1.tag.A t1.tag.n t1.tag.c,.slice t1.A t1.n t1.c,.slice t1.K t1.kn t1.kc,.string t1.text.s,.slice t1.text.A t1.text.n t1.text.c]:=⟨k3,y6.drew⟩
      have HKA:=Lib.hid hka
      clear y6 hka
      refine zap (S:=(fun V=>V.cell? ⟨bo,fs.length * 6+3,none⟩=some (.slice a.K a.kn a.kc)/\Whole V eb 48 #[.string t1.tag.s,.slice t1.tag.A t1.tag.n t1.tag.c,.slice t1.A t1.n t1.c,.slice t1.K t1.kn t1.kc,.string t1.text.s,.slice t1.text.A t1.text.n t1.text.c])) (Z:=(fun i=>decide (8<=i))) (by kernel_rfl) ?_
      refine' zc (i:=0) ?i26 (by kernel_rfl) (by kernel_rfl) (by kernel_rfl) (by kernel_rfl) ?q26 ?y26 hS ?r26
      case i26=>simp only[zlD,zlE];rfl
      case q26=>exact fun _ _ _ h=>h
      case y26=>
        refine Or.inl ⟨by rfl,?_⟩
        intro wq hq
        try dsimp only at hq
        try obtain⟨hq0,hq1⟩:=hq
        go_simp
        try with_reducible rfl
      try simp only[Act.put,zlA,zlB,zlC]
      refine' zc (i:=1) ?i27 (by kernel_rfl) (by kernel_rfl) (by kernel_rfl) (by kernel_rfl) ?q27 ?y27 hS ?r27
      case i27=>simp only[zlD,zlF,zlE];rfl
      case q27=>exact fun _ _ _ h=>h
      case y27=>
        refine Or.inl ⟨by rfl,?_⟩
        intro wq hq
        try dsimp only at hq
        try obtain⟨hq0,hq1⟩:=hq
        go_simp
        try with_reducible rfl
      try simp only[Act.put,zlA,zlB,zlC]
      refine' zc (i:=2) ?i28 (by kernel_rfl) (by kernel_rfl) (by kernel_rfl) (by kernel_rfl) ?q28 ?y28 hS ?r28
      case i28=>simp only[zlD,zlF,zlE];rfl
      case q28=>exact fun _ _ _ h=>h
      case y28=>
        refine Or.inl ⟨by rfl,?_⟩
        intro wq hq
        try dsimp only at hq
        try obtain⟨hq0,hq1⟩:=hq
        go_simp
        try with_reducible rfl
      try simp only[Act.put,zlA,zlB,zlC]
      refine' zc (i:=3) ?i29 (by kernel_rfl) (by kernel_rfl) (by kernel_rfl) (by kernel_rfl) ?q29 ?y29 hS ?r29
      case i29=>simp only[zlD,zlF,zlE];rfl
      case q29=>exact fun _ _ _ h=>h
      case y29=>
        refine Or.inl ⟨by rfl,?_⟩
        intro wq hq
        try dsimp only at hq
        try obtain⟨hq0,hq1⟩:=hq
        go_simp
        try with_reducible rfl
      try simp only[Act.put,zlA,zlB,zlC]
      refine' zc (i:=4) ?i30 (by kernel_rfl) (by kernel_rfl) (by kernel_rfl) (by kernel_rfl) ?q30 ?y30 hS ?r30
      case i30=>simp only[zlD,zlF,zlE];rfl
      case q30=>exact fun _ _ _ h=>h
      case y30=>
        refine Or.inl ⟨by rfl,?_⟩
        intro wq hq
        try dsimp only at hq
        try obtain⟨hq0,hq1⟩:=hq
        have hr0:=hq1.at_ 0
        have hr1:=hq1.at_ 1
        have hr2:=hq1.at_ 2
        have hr3:=hq1.at_ 3
        have hr4:=hq1.at_ 4
        have hr5:=hq1.at_ 5
        have hr6:=hq1.at_ 6
        go_simp
        try with_reducible rfl
      try simp only[Act.put,zlA,zlB,zlC]
      refine' zc (i:=5) ?i31 (by kernel_rfl) (by kernel_rfl) (by kernel_rfl) (by kernel_rfl) ?q31 ?y31 hS ?r31
      case i31=>simp only[zlD,zlF,zlE];rfl
      case q31=>exact fun _ _ _ h=>h
      case y31=>
        refine Or.inl ⟨by rfl,?_⟩
        intro wq hq
        try dsimp only at hq
        try obtain⟨hq0,hq1⟩:=hq
        go_simp
        try with_reducible rfl
      try simp only[Act.put,zlA,zlB,zlC]
      refine za (rs:=[6]) (by kernel_rfl) (by simp) ?_
      refine' ReadyL.cons ?o32 (fun K hK=>?s32) ReadyL.nil
      case o32=>simp only[zlD,zlF,zlE];rfl
      go_simp
      have hba:Below w6.heap.size w6 (w6.drew.alloc (.cells (zk zeroTT).toArray 48)):=(Below.drew (Below.refl w6.heap.size w6)).alloc (Nat.le_refl _) _
      have h6a:=H6.out.below hba
      have HA7:Hid (AllS (fun b=>¬ Live base g bm Ao Al (fs++ [a]) b) (w6.drew.alloc (.cells (zk zeroTT).toArray 48)) [t1]):=HA6.out.keep (Stays.of hba)
      have HBA:Hid (Below base w (w6.drew.alloc (.cells (zk zeroTT).toArray 48))):=HB6.out.trans (hba.mono H6.out.bw)
      have kfa:∀ j,(w6.drew.alloc (.cells (zk zeroTT).toArray 48)).frozen? ⟨bo,j,none⟩=false:=fun j=>(World.frozen?_of_block (hba.block bo hbo6)).trans (kf j)
      refine hK.out _ _ (.inr ⟨(hba.cell (p:=⟨bo,fs.length * 6+3,none⟩) hbo6).trans k3,hS.2.alloc _⟩) ?_
      have hS2:(w6.drew.alloc (.cells (zk zeroTT).toArray 48)).cell? ⟨bo,fs.length * 6+3,none⟩=some (.slice a.K a.kn a.kc)/\Whole (w6.drew.alloc (.cells (zk zeroTT).toArray 48)) eb 48 #[.string t1.tag.s,.slice t1.tag.A t1.tag.n t1.tag.c,.slice t1.A t1.n t1.c,.slice t1.K t1.kn t1.kc,.string t1.text.s,.slice t1.text.A t1.text.n t1.text.c]:=⟨(hba.cell (p:=⟨bo,fs.length * 6+3,none⟩) hbo6).trans k3,hS.2.alloc _⟩
      have hbo7:bo < (w6.drew.alloc (.cells (zk zeroTT).toArray 48)).heap.size:=Nat.lt_of_lt_of_le hbo6 hba.size
      clear hK K hba k3 kf hS
      try simp only[Act.put,zlA,zlB,zlC]
      refine za (rs:=[7]) (by kernel_rfl) (by simp) ?_
      refine' ReadyL.cons ?o33 (fun K hK=>?s33) ReadyL.nil
      case o33=>simp only[zlD,zlF,zlE];rfl
      refine zR _ (by rfl) (.tmp 38) (.tmp 41) 27 (by rfl) base 48 i0 _ 6 128 Tryz.underlying27 hi hz0 hz1 hz2 rfl (by omega) (.slice a.K a.kn a.kc) a.kn _ (by rfl) (h6a.kid a (by simp)) _ (some ⟨w6.heap.size,0,none⟩) 1 1 (zk zeroTT) (by rfl) (by simp) (by rfl) (zcL (Whole.made w6.drew _ _) rfl) (zbt _) (by simp only[maxLen];omega) (by omega) h6a.bw ?_
      intro v2 w7 hown7 hgr7 hbl7
      obtain⟨gK,kc',cur,rfl,hgKb,hgK⟩:∃ gK cap cur,v2=.slice (some ⟨gK,0,none⟩) (a.kn+1) cap/\base<=gK/\w7.heap[gK]?=some (.cells cur 48 (0,0)):=by
        rcases hown7.2 with ⟨_,h0⟩ | ⟨gK,cap,cur,hv,hb,hg,_⟩
        . omega
        . exact⟨gK,cap,cur,hv,hb,hg⟩
      rw[zq]at hgr7
      rw[zq,zq]at hbl7
      have hgKlt:gK < w7.heap.size:=(Array.getElem?_eq_some_iff.1 hgK).1
      have hne1:gK≠bo:=by
        rintro rfl
        rcases hbl7 with e | e
        . exact(h6a.ap1 gK (by rw[HAO.out];rfl)).2 a (by simp) e.symm
        . have e:some gK=some _:=e
          injection e with e
          exact Nat.lt_irrefl _ (Nat.lt_of_lt_of_eq hbo7 e.symm)
      have hne2:bo≠gK:=Ne.symm hne1
      have hcz:∀ j u,j < 6->(zk zeroTT)[j]?=some u->w7.cell? ⟨gK,a.kn * 6+j,none⟩=some u:=fun j u hj hu=>by
        have h1:=hown7
        rw[<-zZ]at h1
        obtain⟨ad,e,_,hc⟩:=Lies.own h1 _ _ ((zaL (a.kids++ [zeroTT]) a.kn zeroTT (by rw[<-HKA.out,List.getElem?_concat_length]) j hj).trans hu)
        injection e with e
        subst e
        rw[zb2]at hc
        exact hc
      have z0:w7.cell? ⟨gK,a.kn * 6,none⟩=some (.string ⟨#[]⟩):=hcz 0 _ (by omega) rfl
      have z1:=hcz 1 _ (by omega) rfl
      have z2:=hcz 2 _ (by omega) rfl
      have z3:=hcz 3 _ (by omega) rfl
      have z4:=hcz 4 _ (by omega) rfl
      have z5:=hcz 5 _ (by omega) rfl
      have zf0:w7.frozen? ⟨gK,a.kn * 6,none⟩=false:=frozen_of_row w7 gK _ cur _ hgK
      have zf1:w7.frozen? ⟨gK,a.kn * 6+1,none⟩=false:=frozen_of_row w7 gK _ cur _ hgK
      have zf2:w7.frozen? ⟨gK,a.kn * 6+2,none⟩=false:=frozen_of_row w7 gK _ cur _ hgK
      have zf3:w7.frozen? ⟨gK,a.kn * 6+3,none⟩=false:=frozen_of_row w7 gK _ cur _ hgK
      have zf4:w7.frozen? ⟨gK,a.kn * 6+4,none⟩=false:=frozen_of_row w7 gK _ cur _ hgK
      have zf5:w7.frozen? ⟨gK,a.kn * 6+5,none⟩=false:=frozen_of_row w7 gK _ cur _ hgK
      have haf:(⟨gK,0,none⟩:Addr).add (a.kn * 6)=⟨gK,a.kn * 6,none⟩:=zb2 _ _
      have hnk:some bo≠blkA a.K:=fun e=>(h6a.ap1 bo (by rw[HAO.out];rfl)).2 a (by simp) e.symm
      have hbk:w7.heap[bo]?=(w6.drew.alloc (.cells (zk zeroTT).toArray 48)).heap[bo]?:=hgr7.block bo hbo7 hnk
      have q3:w7.cell? ⟨bo,fs.length * 6+3,none⟩=some (.slice a.K a.kn a.kc):=(World.cell?_of_block hbk).trans hS2.1
      have qf3:w7.frozen? ⟨bo,fs.length * 6+3,none⟩=false:=(World.frozen?_of_block hbk).trans (kfa _)
      have y7:Whole w7 eb 48 #[.string t1.tag.s,.slice t1.tag.A t1.tag.n t1.tag.c,.slice t1.A t1.n t1.c,.slice t1.K t1.kn t1.kc,.string t1.text.s,.slice t1.text.A t1.text.n t1.text.c]:=hS2.2.grown hgr7 (fun e=>by
        have h1:=(H1.out.kid a (by simp)).lt eb (by rw[zq];exact e.symm)
        omega)
      have ho7:=hown7
      rw[<-zZ]at ho7
      obtain⟨ho8,hm8⟩:=zb1 (k:=a.kn) t1 ho7 (by rw[List.length_append,HKA.out];show _ < _+1;omega)
      have hset:(a.kids++ [zeroTT]).set a.kn t1=a.kids++ [t1]:=by
        rw[List.set_append,if_neg (by rw[HKA.out];omega),HKA.out,Nat.sub_self]
        rfl
      rw[hset,zaC]at ho8
      have hgr8:(w6.drew.alloc (.cells (zk zeroTT).toArray 48)).grownBy ((((((w7.setCell ⟨gK,a.kn * 6,none⟩ (.string t1.tag.s)).setCell ⟨gK,a.kn * 6+1,none⟩ (.slice t1.tag.A t1.tag.n t1.tag.c)).setCell ⟨gK,a.kn * 6+2,none⟩ (.slice t1.A t1.n t1.c)).setCell ⟨gK,a.kn * 6+3,none⟩ (.slice t1.K t1.kn t1.kc)).setCell ⟨gK,a.kn * 6+4,none⟩ (.string t1.text.s)).setCell ⟨gK,a.kn * 6+5,none⟩ (.slice t1.text.A t1.text.n t1.text.c)) (blkA a.K):=
        ⟨hm8.os.trans hgr7.os,hm8.tape.trans hgr7.tape,hm8.output.trans hgr7.output,Nat.le_trans hgr7.size hm8.size,fun k hk hs=>(hm8.block k (Nat.lt_of_lt_of_le hk hgr7.size) (fun e=>by
          rcases hbl7 with e2 | e2
          . exact hs (by rw[e,<-e2];rfl)
          . have e2:some gK=some _:=e2
            injection e2 with e2
            exact Nat.lt_irrefl _ (Nat.lt_of_lt_of_eq hk (e.trans e2).symm))).trans (hgr7.block k hk hs)⟩
      have HF7:=Lib.hid (h6a.settle (ms:=[t1]) HA7.out hgr8 hbl7 ho8 HAO.out)
      have HB7:Hid (Below base w (((((((w7.setCell ⟨gK,a.kn * 6,none⟩ (.string t1.tag.s)).setCell ⟨gK,a.kn * 6+1,none⟩ (.slice t1.tag.A t1.tag.n t1.tag.c)).setCell ⟨gK,a.kn * 6+2,none⟩ (.slice t1.A t1.n t1.c)).setCell ⟨gK,a.kn * 6+3,none⟩ (.slice t1.K t1.kn t1.kc)).setCell ⟨gK,a.kn * 6+4,none⟩ (.string t1.text.s)).setCell ⟨gK,a.kn * 6+5,none⟩ (.slice t1.text.A t1.text.n t1.text.c)).setCell ⟨bo,fs.length * 6+3,none⟩ (.slice (some ⟨gK,0,none⟩) (a.kn+1) kc'))):=by
        have h2:Below base (w6.drew.alloc (.cells (zk zeroTT).toArray 48)) ((((((w7.setCell ⟨gK,a.kn * 6,none⟩ (.string t1.tag.s)).setCell ⟨gK,a.kn * 6+1,none⟩ (.slice t1.tag.A t1.tag.n t1.tag.c)).setCell ⟨gK,a.kn * 6+2,none⟩ (.slice t1.A t1.n t1.c)).setCell ⟨gK,a.kn * 6+3,none⟩ (.slice t1.K t1.kn t1.kc)).setCell ⟨gK,a.kn * 6+4,none⟩ (.string t1.text.s)).setCell ⟨gK,a.kn * 6+5,none⟩ (.slice t1.text.A t1.text.n t1.text.c)):=(Below.refl base _).grown hgr8 h6a.bw (fun k hk=>((h6a.kid a (by simp)).lt k (by rw[zq];exact hk)).1)
        exact(HBA.out.trans h2).setCell (h6a.opn.lt bo (by rw[zq,HAO.out];rfl)).1 _
      have HCM:Hid ((((((((w7.setCell ⟨bo,fs.length * 6+3,none⟩ (.slice (some ⟨gK,0,none⟩) (a.kn+1) kc')).setCell ⟨gK,a.kn * 6,none⟩ (.string t1.tag.s)).setCell ⟨gK,a.kn * 6+1,none⟩ (.slice t1.tag.A t1.tag.n t1.tag.c)).setCell ⟨gK,a.kn * 6+2,none⟩ (.slice t1.A t1.n t1.c)).setCell ⟨gK,a.kn * 6+3,none⟩ (.slice t1.K t1.kn t1.kc)).setCell ⟨gK,a.kn * 6+4,none⟩ (.string t1.text.s)).setCell ⟨gK,a.kn * 6+5,none⟩ (.slice t1.text.A t1.text.n t1.text.c))=((((((w7.setCell ⟨gK,a.kn * 6,none⟩ (.string t1.tag.s)).setCell ⟨gK,a.kn * 6+1,none⟩ (.slice t1.tag.A t1.tag.n t1.tag.c)).setCell ⟨gK,a.kn * 6+2,none⟩ (.slice t1.A t1.n t1.c)).setCell ⟨gK,a.kn * 6+3,none⟩ (.slice t1.K t1.kn t1.kc)).setCell ⟨gK,a.kn * 6+4,none⟩ (.string t1.text.s)).setCell ⟨gK,a.kn * 6+5,none⟩ (.slice t1.text.A t1.text.n t1.text.c)).setCell ⟨bo,fs.length * 6+3,none⟩ (.slice (some ⟨gK,0,none⟩) (a.kn+1) kc')):=by
        show _=_
        rw[zK w7 ⟨bo,fs.length * 6+3,none⟩ ⟨gK,a.kn * 6,none⟩ hne2,zK _ ⟨bo,fs.length * 6+3,none⟩ ⟨gK,a.kn * 6+1,none⟩ hne2,zK _ ⟨bo,fs.length * 6+3,none⟩ ⟨gK,a.kn * 6+2,none⟩ hne2,zK _ ⟨bo,fs.length * 6+3,none⟩ ⟨gK,a.kn * 6+3,none⟩ hne2,zK _ ⟨bo,fs.length * 6+3,none⟩ ⟨gK,a.kn * 6+4,none⟩ hne2,zK _ ⟨bo,fs.length * 6+3,none⟩ ⟨gK,a.kn * 6+5,none⟩ hne2]
      refine hK.out _ _ (.inr ⟨q3,y7⟩) ?_
      clear hK K hown7 hgr7 hbl7 hgK hcz hbk y7 ho7 ho8 hm8 hset hgr8 hS2 h6a
      try simp only[Act.put,zlA,zlB,zlC]
      refine za (rs:=[8,10]) (by kernel_rfl) (by simp) ?_
      refine' ReadyL.cons ?o34 (fun K hK=>?s34) ?m34
      case o34=>simp only[zlD,zlF,zlE];rfl
      case s34=>
        go_simp
        refine hK.out _ _ (.inl (by decide)) ?_
        clear hK K
        try simp only[Act.put,zlA,zlB,zlC]
        refine za (rs:=[9,10]) (by kernel_rfl) (by simp) ?_
        refine' ReadyL.cons ?o35 (fun K hK=>?s35) ?m35
        case o35=>simp only[zlD,zlF,zlE];rfl
        case s35=>
          go_simp
          refine hK.out _ _ (.inl (by decide)) ?_
          clear hK K
          try simp only[Act.put,zlA,zlB,zlC]
          refine za (rs:=[10]) (by kernel_rfl) (by simp) ?_
          refine' ReadyL.cons ?o36 (fun K hK=>?s36) ReadyL.nil
          case o36=>simp only[zlD,zlF,zlE];rfl
          go_simp
          refine hK.out _ _ (.inl (by decide)) ?_
          clear hK K
          try simp only[Act.put,zlA,zlB,zlC]
          refine za (rs:=[11]) (by kernel_rfl) (by simp) ?_
          refine' ReadyL.cons ?o37 (fun K hK=>?s37) ReadyL.nil
          case o37=>simp only[zlD,zlF,zlE];rfl
          go_simp
          refine hK.out _ _ (.inl (by decide)) ?_
          clear hK K
          try simp only[Act.put,zlA,zlB,zlC]
          refine za (rs:=[12]) (by kernel_rfl) (by simp) ?_
          refine' ReadyL.cons ?o38 (fun K hK=>?s38) ReadyL.nil
          case o38=>simp only[zlD,zlF,zlE];rfl
          go_simp
          refine hK.out _ _ (.inl (by decide)) ?_
          clear hK K
          try simp only[Act.put,zlA,zlB,zlC]
          refine zi (by kernel_rfl) ?_ _
          go_wp2_with fail
          go_end0
          exact⟨rfl,some ⟨gK,0,none⟩,kc',t1,by rw[HX.out];exact HF7.out,HT1.out,HB7.out⟩
        refine' ReadyL.cons ?o39 (fun K hK=>?s39) ReadyL.nil
        case o39=>simp only[zlD,zlF,zlE];rfl
        go_simp
        refine hK.out _ _ (.inl (by decide)) ?_
        clear hK K
        try simp only[Act.put,zlA,zlB,zlC]
        refine za (rs:=[9,11]) (by kernel_rfl) (by simp) ?_
        refine' ReadyL.cons ?o40 (fun K hK=>?s40) ?m40
        case o40=>simp only[zlD,zlF,zlE];rfl
        case s40=>
          go_simp
          refine hK.out _ _ (.inl (by decide)) ?_
          clear hK K
          try simp only[Act.put,zlA,zlB,zlC]
          refine za (rs:=[11]) (by kernel_rfl) (by simp) ?_
          refine' ReadyL.cons ?o41 (fun K hK=>?s41) ReadyL.nil
          case o41=>simp only[zlD,zlF,zlE];rfl
          go_simp
          refine hK.out _ _ (.inl (by decide)) ?_
          clear hK K
          try simp only[Act.put,zlA,zlB,zlC]
          refine za (rs:=[12]) (by kernel_rfl) (by simp) ?_
          refine' ReadyL.cons ?o42 (fun K hK=>?s42) ReadyL.nil
          case o42=>simp only[zlD,zlF,zlE];rfl
          go_simp
          refine hK.out _ _ (.inl (by decide)) ?_
          clear hK K
          try simp only[Act.put,zlA,zlB,zlC]
          refine zi (by kernel_rfl) ?_ _
          go_wp2_with fail
          go_end0
          exact⟨rfl,some ⟨gK,0,none⟩,kc',t1,by rw[HX.out];exact HF7.out,HT1.out,HB7.out⟩
        refine' ReadyL.cons ?o43 (fun K hK=>?s43) ReadyL.nil
        case o43=>simp only[zlD,zlF,zlE];rfl
        go_simp
        refine hK.out _ _ (.inl (by decide)) ?_
        clear hK K
        try simp only[Act.put,zlA,zlB,zlC]
        refine za (rs:=[9,12]) (by kernel_rfl) (by simp) ?_
        refine' ReadyL.cons ?o44 (fun K hK=>?s44) ?m44
        case o44=>simp only[zlD,zlF,zlE];rfl
        case s44=>
          go_simp
          refine hK.out _ _ (.inl (by decide)) ?_
          clear hK K
          try simp only[Act.put,zlA,zlB,zlC]
          refine za (rs:=[12]) (by kernel_rfl) (by simp) ?_
          refine' ReadyL.cons ?o45 (fun K hK=>?s45) ReadyL.nil
          case o45=>simp only[zlD,zlF,zlE];rfl
          go_simp
          refine hK.out _ _ (.inl (by decide)) ?_
          clear hK K
          try simp only[Act.put,zlA,zlB,zlC]
          refine zi (by kernel_rfl) ?_ _
          go_wp2_with fail
          go_end0
          exact⟨rfl,some ⟨gK,0,none⟩,kc',t1,by rw[HX.out];exact HF7.out,HT1.out,HB7.out⟩
        refine' ReadyL.cons ?o46 (fun K hK=>?s46) ReadyL.nil
        case o46=>simp only[zlD,zlF,zlE];rfl
        go_simp
        refine hK.out _ _ (.inl (by decide)) ?_
        clear hK K
        try simp only[Act.put,zlA,zlB,zlC]
        refine za (rs:=[9]) (by kernel_rfl) (by simp) ?_
        refine' ReadyL.cons ?o47 (fun K hK=>?s47) ReadyL.nil
        case o47=>simp only[zlD,zlF,zlE];rfl
        go_simp
        refine hK.out _ _ (.inl (by decide)) ?_
        clear hK K
        try simp only[Act.put,zlA,zlB,zlC]
        refine zi (by kernel_rfl) ?_ _
        go_wp2_with fail
        go_end0
        exact⟨rfl,some ⟨gK,0,none⟩,kc',t1,by rw[HX.out,HCM.out];exact HF7.out,HT1.out,by rw[HCM.out];exact HB7.out⟩
      refine' ReadyL.cons ?o48 (fun K hK=>?s48) ReadyL.nil
      case o48=>simp only[zlD,zlF,zlE];rfl
      go_simp
      refine hK.out _ _ (.inl (by decide)) ?_
      clear hK K
      try simp only[Act.put,zlA,zlB,zlC]
      refine za (rs:=[8,11]) (by kernel_rfl) (by simp) ?_
      refine' ReadyL.cons ?o49 (fun K hK=>?s49) ?m49
      case o49=>simp only[zlD,zlF,zlE];rfl
      case s49=>
        go_simp
        refine hK.out _ _ (.inl (by decide)) ?_
        clear hK K
        try simp only[Act.put,zlA,zlB,zlC]
        refine za (rs:=[9,11]) (by kernel_rfl) (by simp) ?_
        refine' ReadyL.cons ?o50 (fun K hK=>?s50) ?m50
        case o50=>simp only[zlD,zlF,zlE];rfl
        case s50=>
          go_simp
          refine hK.out _ _ (.inl (by decide)) ?_
          clear hK K
          try simp only[Act.put,zlA,zlB,zlC]
          refine za (rs:=[11]) (by kernel_rfl) (by simp) ?_
          refine' ReadyL.cons ?o51 (fun K hK=>?s51) ReadyL.nil
          case o51=>simp only[zlD,zlF,zlE];rfl
          go_simp
          refine hK.out _ _ (.inl (by decide)) ?_
          clear hK K
          try simp only[Act.put,zlA,zlB,zlC]
          refine za (rs:=[12]) (by kernel_rfl) (by simp) ?_
          refine' ReadyL.cons ?o52 (fun K hK=>?s52) ReadyL.nil
          case o52=>simp only[zlD,zlF,zlE];rfl
          go_simp
          refine hK.out _ _ (.inl (by decide)) ?_
          clear hK K
          try simp only[Act.put,zlA,zlB,zlC]
          refine zi (by kernel_rfl) ?_ _
          go_wp2_with fail
          go_end0
          exact⟨rfl,some ⟨gK,0,none⟩,kc',t1,by rw[HX.out];exact HF7.out,HT1.out,HB7.out⟩
        refine' ReadyL.cons ?o53 (fun K hK=>?s53) ReadyL.nil
        case o53=>simp only[zlD,zlF,zlE];rfl
        go_simp
        refine hK.out _ _ (.inl (by decide)) ?_
        clear hK K
        try simp only[Act.put,zlA,zlB,zlC]
        refine za (rs:=[9,12]) (by kernel_rfl) (by simp) ?_
        refine' ReadyL.cons ?o54 (fun K hK=>?s54) ?m54
        case o54=>simp only[zlD,zlF,zlE];rfl
        case s54=>
          go_simp
          refine hK.out _ _ (.inl (by decide)) ?_
          clear hK K
          try simp only[Act.put,zlA,zlB,zlC]
          refine za (rs:=[12]) (by kernel_rfl) (by simp) ?_
          refine' ReadyL.cons ?o55 (fun K hK=>?s55) ReadyL.nil
          case o55=>simp only[zlD,zlF,zlE];rfl
          go_simp
          refine hK.out _ _ (.inl (by decide)) ?_
          clear hK K
          try simp only[Act.put,zlA,zlB,zlC]
          refine zi (by kernel_rfl) ?_ _
          go_wp2_with fail
          go_end0
          exact⟨rfl,some ⟨gK,0,none⟩,kc',t1,by rw[HX.out];exact HF7.out,HT1.out,HB7.out⟩
        refine' ReadyL.cons ?o56 (fun K hK=>?s56) ReadyL.nil
        case o56=>simp only[zlD,zlF,zlE];rfl
        go_simp
        refine hK.out _ _ (.inl (by decide)) ?_
        clear hK K
        try simp only[Act.put,zlA,zlB,zlC]
        refine za (rs:=[9]) (by kernel_rfl) (by simp) ?_
        refine' ReadyL.cons ?o57 (fun K hK=>?s57) ReadyL.nil
        case o57=>simp only[zlD,zlF,zlE];rfl
        go_simp
        refine hK.out _ _ (.inl (by decide)) ?_
        clear hK K
        try simp only[Act.put,zlA,zlB,zlC]
        refine zi (by kernel_rfl) ?_ _
        go_wp2_with fail
        go_end0
        exact⟨rfl,some ⟨gK,0,none⟩,kc',t1,by rw[HX.out,HCM.out];exact HF7.out,HT1.out,by rw[HCM.out];exact HB7.out⟩
      refine' ReadyL.cons ?o58 (fun K hK=>?s58) ReadyL.nil
      case o58=>simp only[zlD,zlF,zlE];rfl
      go_simp
      refine hK.out _ _ (.inl (by decide)) ?_
      clear hK K
      try simp only[Act.put,zlA,zlB,zlC]
      refine za (rs:=[8,12]) (by kernel_rfl) (by simp) ?_
      refine' ReadyL.cons ?o59 (fun K hK=>?s59) ?m59
      case o59=>simp only[zlD,zlF,zlE];rfl
      case s59=>
        go_simp
        refine hK.out _ _ (.inl (by decide)) ?_
        clear hK K
        try simp only[Act.put,zlA,zlB,zlC]
        refine za (rs:=[9,12]) (by kernel_rfl) (by simp) ?_
        refine' ReadyL.cons ?o60 (fun K hK=>?s60) ?m60
        case o60=>simp only[zlD,zlF,zlE];rfl
        case s60=>
          go_simp
          refine hK.out _ _ (.inl (by decide)) ?_
          clear hK K
          try simp only[Act.put,zlA,zlB,zlC]
          refine za (rs:=[12]) (by kernel_rfl) (by simp) ?_
          refine' ReadyL.cons ?o61 (fun K hK=>?s61) ReadyL.nil
          case o61=>simp only[zlD,zlF,zlE];rfl
          go_simp
          refine hK.out _ _ (.inl (by decide)) ?_
          clear hK K
          try simp only[Act.put,zlA,zlB,zlC]
          refine zi (by kernel_rfl) ?_ _
          go_wp2_with fail
          go_end0
          exact⟨rfl,some ⟨gK,0,none⟩,kc',t1,by rw[HX.out];exact HF7.out,HT1.out,HB7.out⟩
        refine' ReadyL.cons ?o62 (fun K hK=>?s62) ReadyL.nil
        case o62=>simp only[zlD,zlF,zlE];rfl
        go_simp
        refine hK.out _ _ (.inl (by decide)) ?_
        clear hK K
        try simp only[Act.put,zlA,zlB,zlC]
        refine za (rs:=[9]) (by kernel_rfl) (by simp) ?_
        refine' ReadyL.cons ?o63 (fun K hK=>?s63) ReadyL.nil
        case o63=>simp only[zlD,zlF,zlE];rfl
        go_simp
        refine hK.out _ _ (.inl (by decide)) ?_
        clear hK K
        try simp only[Act.put,zlA,zlB,zlC]
        refine zi (by kernel_rfl) ?_ _
        go_wp2_with fail
        go_end0
        exact⟨rfl,some ⟨gK,0,none⟩,kc',t1,by rw[HX.out,HCM.out];exact HF7.out,HT1.out,by rw[HCM.out];exact HB7.out⟩
      refine' ReadyL.cons ?o64 (fun K hK=>?s64) ReadyL.nil
      case o64=>simp only[zlD,zlF,zlE];rfl
      go_simp
      refine hK.out _ _ (.inl (by decide)) ?_
      clear hK K
      try simp only[Act.put,zlA,zlB,zlC]
      refine za (rs:=[8]) (by kernel_rfl) (by simp) ?_
      refine' ReadyL.cons ?o65 (fun K hK=>?s65) ReadyL.nil
      case o65=>simp only[zlD,zlF,zlE];rfl
      go_simp
      refine hK.out _ _ (.inl (by decide)) ?_
      clear hK K
      try simp only[Act.put,zlA,zlB,zlC]
      refine za (rs:=[9]) (by kernel_rfl) (by simp) ?_
      refine' ReadyL.cons ?o66 (fun K hK=>?s66) ReadyL.nil
      case o66=>simp only[zlD,zlF,zlE];rfl
      go_simp
      refine hK.out _ _ (.inl (by decide)) ?_
      clear hK K
      try simp only[Act.put,zlA,zlB,zlC]
      refine zi (by kernel_rfl) ?_ _
      go_wp2_with fail
      go_end0
      exact⟨rfl,some ⟨gK,0,none⟩,kc',t1,by rw[HX.out,HCM.out];exact HF7.out,HT1.out,by rw[HCM.out];exact HB7.out⟩
theorem zgA{α:Type}[DecidableEq α]:∀ (A B:List α),A.Nodup->(∀ x∈A,x∈B)->A.length<=B.length:=by
  intro A
  induction A with
  | nil=>intro B _ _;exact Nat.zero_le _
  | cons x A ih=>
    intro B hn hs
    rw[List.nodup_cons]at hn
    have hx:x∈B:=hs x (by simp)
    have h1:=ih (B.erase x) hn.2 fun y hy=>(List.mem_erase_of_ne (fun e=>hn.1 (by rw[<-e];exact hy))).2 (hs y (List.mem_cons_of_mem _ hy))
    rw[List.length_erase_of_mem hx]at h1
    have:=List.length_pos_of_mem hx
    rw[List.length_cons]
    omega
theorem zcl{A:List PA}(h:(A.map nmB).Nodup):A.Nodup:=List.Pairwise.of_map nmB (fun _ _ h e=>h (congrArg nmB e)) h
theorem zp5{A:List PA}(h:(A.map nmB).Nodup){p q:PA}(hp:p∈A)(hq:q∈A)(e:nmB p=nmB q):p=q:=by
  obtain⟨i,hi⟩:=List.mem_iff_getElem?.1 hp
  obtain⟨j,hj⟩:=List.mem_iff_getElem?.1 hq
  have h1:=zdi h hi
  have h2:=zdi h hj
  rw[e,h2]at h1
  subst h1
  rw[hi]at hj
  injection hj
theorem zeh{A:List PA}(h:(A.map nmB).Nodup){p:PA}(hp:p∈A):getA A (nmB p)=some p:=by
  obtain⟨i,hi⟩:=List.mem_iff_getElem?.1 hp
  unfold getA
  rw[zdi h hi]
  exact hi
theorem zfB{A:List PA}{nm:List UInt8}{p:PA}(h:getA A nm=some p):p∈A:=List.mem_of_getElem? h
theorem znu{A B:List PA}(hA:(A.map nmB).Nodup)(hB:(B.map nmB).Nodup):zfl A B=true↔A.length=B.length/\∀ p∈A,p∈B:=by
  have h0:zfl A B=true↔(∀ x∈B,x∈A)/\(∀ x∈A,∃ y∈B,nmB y=nmB x):=by
    unfold zfl
    rw[Bool.and_eq_true,List.isEmpty_iff,List.isEmpty_iff]
    constructor
    . rintro⟨h1,h2⟩
      constructor
      . intro x hx
        by_cases h:getA A (nmB x)=some x
        . exact zfB h
        . have:x∈zhV A B:=ziW.2 ⟨zeh hB hx,h⟩
          rw[h1]at this;cases this
      . intro x hx
        cases h:getA B (nmB x) with
        | some y=>exact⟨y,zfB h,zhU h⟩
        | none=>
          have:x∈zhW A B:=ziX.2 ⟨zeh hA hx,h⟩
          rw[h2]at this;cases this
    . rintro⟨h1,h2⟩
      constructor
      . refine List.eq_nil_iff_forall_not_mem.2 fun x hx=>?_
        obtain⟨h3,h4⟩:=ziW.1 hx
        exact h4 (zeh hA (h1 x (zfB h3)))
      . refine List.eq_nil_iff_forall_not_mem.2 fun x hx=>?_
        obtain⟨h3,h4⟩:=ziX.1 hx
        obtain⟨y,hy,e⟩:=h2 x (zfB h3)
        rw[<-e,zeh hB hy]at h4
        cases h4
  rw[h0]
  constructor
  . rintro⟨h1,h2⟩
    have h3:∀ p∈A,p∈B:=fun p hp=>by
      obtain⟨y,hy,e⟩:=h2 p hp
      rw[<-zp5 hA (h1 y hy) hp e]
      exact hy
    exact⟨Nat.le_antisymm (zgA _ _ (zcl hA) h3) (zgA _ _ (zcl hB) h1),h3⟩
  . rintro⟨h1,h2⟩
    refine⟨fun x hx=>?_,fun x hx=>⟨x,h2 x hx,rfl⟩⟩
    by_cases h:x∈A
    . exact h
    . exfalso
      have h3:=zgA A (B.erase x) (zcl hA) fun y hy=>(List.mem_erase_of_ne (fun e=>h (by rw[<-e];exact hy))).2 (h2 y hy)
      rw[List.length_erase_of_mem hx]at h3
      have:=List.length_pos_of_mem hx
      omega
mutual
def PT.dist:PT->Prop
  | ⟨_,attrs,kids,_⟩=>(attrs.map nmB).Nodup/\zdv kids
def zdv:List PT->Prop
  | []=>True
  | t::ts=>t.dist/\zdv ts
end
theorem PT.dist_eq(t:PT):t.dist↔(t.attrs.map nmB).Nodup/\zdv t.kids:=by cases t;rw[PT.dist]
theorem zp6{L:List PT}:zdv L↔∀ t∈L,t.dist:=by
  induction L with
  | nil=>simp [zdv]
  | cons x L ih=>rw[zdv,ih];simp
theorem zkZ(c:Ch):(txT c).dist:=by rw[PT.dist_eq];exact⟨List.nodup_nil,by show zdv [];rw[zdv];trivial⟩
theorem zhE:∀ L:List PT,zdv (zj L):=by
  apply PT.ind
  intro L hk
  induction L using za1 with
  | nil=>show zdv [];rw[zdv];trivial
  | append_singleton l t ih=>
    have ih':=ih fun y hy=>hk y (List.mem_append_left _ hy)
    have hkt:=hk t (by simp)
    rw[zX]
    rw[zp6]at ih' ⊢
    by_cases ht:t.tag=[]
    . by_cases he:t.text=[]
      . rw[zcg ht he];exact ih'
      . rcases zas (zj l)with h | ⟨xs,y,h⟩
        . rw[h,za0 ht he];intro x hx;simp at hx;subst hx;exact zkZ _
        . rw[h]at ih' ⊢
          by_cases hy:y.tag=[]
          . rw[zbr ht he _ _ hy]
            intro x hx
            rcases List.mem_append.1 hx with hx | hx
            . exact ih' x (List.mem_append_left _ hx)
            . simp at hx;subst hx;exact zkZ _
          . rw[zby ht he _ _ hy]
            intro x hx
            rcases List.mem_append.1 hx with hx | hx
            . exact ih' x hx
            . simp at hx;subst hx;exact zkZ _
    . rw[zbJ ht]
      intro x hx
      rcases List.mem_append.1 hx with hx | hx
      . exact ih' x hx
      . simp at hx;subst hx;rw[PT.dist_eq];exact⟨ziZ _,hkt⟩
structure PaleG (pale:Bool) (g:Ch->Ch):Prop where
  eq:∀ c d,g c=g d↔c.map (·.1)=d.map (·.1)/\(pale=true\/c=d)
  fst:∀ c,(g c).map (·.1)=c.map (·.1)
theorem zsf:PaleG false id:=⟨fun c d=>⟨fun h=>⟨congrArg _ h,.inr h⟩,fun h=>h.2.resolve_left (by decide)⟩,fun _=>rfl⟩
theorem zp7{pale:Bool}{g:Ch->Ch}(hg:PaleG pale g){A B:List PA}(hA:(A.map nmB).Nodup)(hB:(B.map nmB).Nodup) :
    zfl (A.map (gA g)) (B.map (gA g))=(A.length == B.length && A.all fun p=>B.any fun q=>metA pale p q):=by
  have hn:∀ p:PA,nmB (gA g p)=nmB p:=fun p=>hg.fst p.1
  have hm:∀ M:List PA,(M.map (gA g)).map nmB=M.map nmB:=fun M=>by rw[List.map_map];exact List.map_congr_left fun p _=>hn p
  have hmet:∀ p q:PA,metA pale p q=true↔gA g p=gA g q:=fun p q=>by
    unfold metA gA
    simp only[Bool.and_eq_true,Bool.or_eq_true,beq_iff_eq,Prod.mk.injEq,hg.eq]
    constructor
    . rintro⟨⟨h1,h2⟩,h3⟩
      exact⟨⟨h1,h3.imp id fun e=>by rw[e]⟩,h2,h3.imp id fun e=>by rw[e]⟩
    . rintro⟨⟨h1,h3⟩,h2,h4⟩
      refine⟨⟨h1,h2⟩,?_⟩
      rcases h3 with h3 | h3
      . exact .inl h3
      . rcases h4 with h4 | h4
        . exact .inl h4
        . exact .inr (Prod.ext h3 h4)
  rw[Bool.eq_iff_iff,znu (by rw[hm];exact hA) (by rw[hm];exact hB)]
  simp only[Bool.and_eq_true,beq_iff_eq,List.all_eq_true,List.any_eq_true,hmet,List.length_map]
  constructor
  . rintro⟨h1,h2⟩
    refine⟨h1,fun p hp=>?_⟩
    obtain⟨q,hq,e⟩:=List.mem_map.1 (h2 _ (List.mem_map.2 ⟨p,hp,rfl⟩))
    exact⟨q,hq,e.symm⟩
  . rintro⟨h1,h2⟩
    refine⟨h1,fun p' hp'=>?_⟩
    obtain⟨p,hp,rfl⟩:=List.mem_map.1 hp'
    obtain⟨q,hq,e⟩:=h2 p hp
    exact List.mem_map.2 ⟨q,hq,e.symm⟩
theorem zt2{pale:Bool}{g:Ch->Ch}(hg:PaleG pale g):∀ a b:List PT,zdv a->zdv b->eqL (mapL g a) (mapL g b)=zfm pale a b:=by
  apply PT.ind (p:=fun a=>∀ b,zdv a->zdv b->eqL (mapL g a) (mapL g b)=zfm pale a b)
  intro a IH
  induction a with
  | nil=>
    intro b _ _
    cases b with
    | nil=>rw[mapL,eqL,zfm]
    | cons y b=>rw[mapL,mapL,eqL,zfm]
  | cons x a ih=>
    intro b ha hb
    cases b with
    | nil=>rw[mapL,mapL,eqL,zfm]
    | cons y b=>
      rw[zdv]at ha hb
      rw[mapL,mapL,eqL,zfm,ih (fun t ht=>IH t (List.mem_cons_of_mem _ ht)) b ha.2 hb.2]
      congr 1
      have hx:=(PT.dist_eq x).1 ha.1
      have hy:=(PT.dist_eq y).1 hb.1
      rw[PT.eqT_eq,PT.mapT_eq,PT.mapT_eq,PT.same_eq]
      simp only
      rw[IH x (by simp) y.kids hx.2 hy.2,zp7 hg hx.1 hy.1,Bool.eq_iff_iff]
      simp only[Bool.and_eq_true,Bool.or_eq_true,decide_eq_true_eq,beq_iff_eq,hg.eq]
      constructor
      . rintro⟨⟨h1,h2⟩,⟨h3,h4⟩,⟨h5,h6⟩,h7⟩
        refine⟨⟨⟨⟨⟨h1,h5⟩,h3⟩,h7⟩,?_⟩,h4⟩
        rcases h2 with h2 | h2
        . exact .inl h2
        . exact h6.imp id fun h6=>⟨h2,h6⟩
      . rintro⟨⟨⟨⟨⟨h1,h5⟩,h3⟩,h7⟩,h2⟩,h4⟩
        exact⟨⟨h1,h2.imp id (·.1)⟩,⟨h3,h4⟩,⟨h5,h2.imp id (·.2)⟩,h7⟩
end Go.Proofs.YtddgabjhligeeaaGreat.mk
