import Derived.Test.YtddgabjhligeeaaGreatJnAX
import Derived.Test.YtddgabjhligeeaaGreatJnAR
import Derived.Test.YtddgabjhligeeaaGreatJnY
set_option maxHeartbeats 4000000
set_option maxRecDepth 100000
namespace Go.Proofs.YtddgabjhligeeaaGreat.mk
open Go.RowKit
def zl1(g:Nat)(L:Ch)(p:PA)(r:Ch)(v4 v5:Value)(w:World)(e:Ending)(w':World):Prop:=
  ∃ a:AT,e=.returned (.agg #[.string a.nm.s,.slice a.nm.A a.nm.n a.nm.c,.string a.vl.s,.slice a.vl.A a.vl.n a.vl.c])/\Hid (a.ch=p/\OwnA w' w.heap.size a)/\Src w' g L r v4 v5/\Sv g w w'
theorem znG{w:World}{g:Nat}{t:TypeId}{u v:LT}(h:Whole w g t #[.string u.s,.slice u.A u.n u.c,.string v.s,.slice v.A v.n v.c]):Lies w w.heap.size (some ⟨g,0,none⟩) (zu [u,v]):=by
  intro j x hx
  refine⟨_,rfl,h.lt,?_⟩
  have e:((⟨g,0,none⟩:Addr).add j)=⟨g,j,none⟩:=by unfold Addr.add;split<;>simp_all
  rw[e,h.at_]
  simpa [zu]using hx
def noLT13:LT:=⟨⟨#[]⟩,none,0,0,[]⟩
theorem zcm:noLT13.ch=[]:=rfl
theorem zbQ(w:World)(B:Nat):OwnL w B noLT13:=⟨rfl,⟨by decide,rfl⟩,by decide,World.ownsRow_nil _ _ _ _⟩
def ResL(l:Ch)(B:Nat)(w:World)(x:Value):Prop:=∃ t:LT,x=.agg #[.string t.s,.slice t.A t.n t.c]/\t.ch=l/\OwnL w B t
def LitL(u:LT)(U:Ch)(B:Nat)(w:World)(x:Value):Prop:=∃ (b:Nat) (t:LT),x=.slice (some ⟨b,0,none⟩) 2 2/\B<=b/\t.ch=U/\OwnL w B t/\Whole w b 24 #[.string u.s,.slice u.A u.n u.c,.string t.s,.slice t.A t.n t.c]
def ResN(l:Ch)(B:Nat)(w:World)(x:Value):Prop:=∃ t:LT,x=.agg #[.string t.s,.slice t.A t.n t.c,.string ⟨#[]⟩,.slice none 0 0]/\t.ch=l/\OwnL w B t
def VarN(l:Ch)(B:Nat)(w:World)(x:Value)(d:Bool):Prop:=∃ b:Nat,x=.pointer (some ⟨b,0,none⟩)/\B<=b/\(d=false->Whole w b 93 #[.string ⟨#[]⟩,.slice none 0 0,.string ⟨#[]⟩,.slice none 0 0])/\(d=true->∃ t:LT,Whole w b 93 #[.string t.s,.slice t.A t.n t.c,.string ⟨#[]⟩,.slice none 0 0]/\t.ch=l/\OwnL w B t)
section
variable {l U : Ch} {B g b : Nat} {w w' : World} {x : Value} {u : LT}
theorem ResL.sv(h:ResL l B w x)(hv:Sv g w w')(hg:g < B):ResL l B w' x:=by obtain⟨t,e,h1,h2⟩:=h;exact⟨t,e,h1,h2.sv hv hg⟩
theorem ResN.sv(h:ResN l B w x)(hv:Sv g w w')(hg:g < B):ResN l B w' x:=by obtain⟨t,e,h1,h2⟩:=h;exact⟨t,e,h1,h2.sv hv hg⟩
theorem LitL.sv(h:LitL u U B w x)(hv:Sv g w w')(hg:g < B):LitL u U B w' x:=by obtain⟨b,t,e,h0,h1,h2,h3⟩:=h;exact⟨b,t,e,h0,h1,h2.sv hv hg,hv.whole h3 (by omega)⟩
theorem VarN.sv{d:Bool}(h:VarN l B w x d)(hv:Sv g w w')(hg:g < B):VarN l B w' x d:=by
  obtain⟨b,e,h0,h1,h2⟩:=h
  exact⟨b,e,h0,fun hd=>hv.whole (h1 hd) (by omega),fun hd=>by obtain⟨t,k1,k2,k3⟩:=h2 hd;exact⟨t,hv.whole k1 (by omega),k2,k3.sv hv hg⟩⟩
variable {cs : Array Value} {t : LT} {v0 v1 v2 v3 : Value}
theorem zbu{j:Nat}{v:Value}(h:OwnL w B t)(hW:Whole w b 93 cs):OwnL (w.setCell ⟨b,j,none⟩ v) B t:=
  h.keep fun i c _ hc=>Below.heap_setCell _ _ _ _ (by
    show i≠b
    rintro rfl
    rw[show w.heap[i]?=_ from hW]at hc
    injection hc with hc
    injection hc with _ hc _
    exact absurd hc (by decide))
theorem zc1(h:OwnL w B t)(hW:Whole w b 93 cs)(v0 v1 v2 v3:Value):OwnL ((((w.setCell ⟨b,0,none⟩ v0).setCell ⟨b,1,none⟩ v1).setCell ⟨b,2,none⟩ v2).setCell ⟨b,3,none⟩ v3) B t:=
  zbu (zbu (zbu (zbu h hW) (hW.put 0 v0)) ((hW.put 0 v0).put 1 v1)) (((hW.put 0 v0).put 1 v1).put 2 v2)
theorem ResL.put4(h:ResL l B w x)(hW:Whole w b 93 cs)(v0 v1 v2 v3:Value):ResL l B ((((w.setCell ⟨b,0,none⟩ v0).setCell ⟨b,1,none⟩ v1).setCell ⟨b,2,none⟩ v2).setCell ⟨b,3,none⟩ v3) x:=by
  obtain⟨t,e,h1,h2⟩:=h
  exact⟨t,e,h1,zc1 h2 hW _ _ _ _⟩
theorem zjZ{a0 a1 a2 a3:Value}(hW:Whole w b 93 #[a0,a1,a2,a3])(v0 v1 v2 v3:Value):Whole ((((w.setCell ⟨b,0,none⟩ v0).setCell ⟨b,1,none⟩ v1).setCell ⟨b,2,none⟩ v2).setCell ⟨b,3,none⟩ v3) b 93 #[v0,v1,v2,v3]:=(((hW.put 0 v0).put 1 v1).put 2 v2).put 3 v3
theorem zl2{wc:World}(h:Sv g wc w)(hb:wc.heap.size<=b)(v0 v1 v2 v3:Value):Sv g wc ((((w.setCell ⟨b,0,none⟩ v0).setCell ⟨b,1,none⟩ v1).setCell ⟨b,2,none⟩ v2).setCell ⟨b,3,none⟩ v3):=
  (((h.setNew (p:=⟨b,0,none⟩) hb v0).setNew (p:=⟨b,1,none⟩) hb v1).setNew (p:=⟨b,2,none⟩) hb v2).setNew (p:=⟨b,3,none⟩) hb v3
theorem zfZ{L r:Ch}{v4 v5:Value}(h:Src w g L r v4 v5)(hb:g < b)(v0 v1 v2 v3:Value):Src ((((w.setCell ⟨b,0,none⟩ v0).setCell ⟨b,1,none⟩ v1).setCell ⟨b,2,none⟩ v2).setCell ⟨b,3,none⟩ v3) g L r v4 v5:=
  (((h.far ⟨b,0,none⟩ hb v0).far ⟨b,1,none⟩ hb v1).far ⟨b,2,none⟩ hb v2).far ⟨b,3,none⟩ hb v3
theorem zez{L r:Ch}{v4 v5:Value}{W:World}{p:PA}{a:AT}{a0 a1 a2 a3:Value}(hgr:g < w.heap.size)(h:a.ch=p/\OwnA W (w.heap.size+1) a)(hs:Src W g L r v4 v5)(hv:Sv g w W)(hr:Whole W w.heap.size 93 #[a0,a1,a2,a3]) :
    zl1 g L p r v4 v5 w (.returned (.agg #[.string a.nm.s,.slice a.nm.A a.nm.n a.nm.c,.string a.vl.s,.slice a.vl.A a.vl.n a.vl.c])) ((((W.setCell ⟨w.heap.size,0,none⟩ (.string a.nm.s)).setCell ⟨w.heap.size,1,none⟩ (.slice a.nm.A a.nm.n a.nm.c)).setCell ⟨w.heap.size,2,none⟩ (.string a.vl.s)).setCell ⟨w.heap.size,3,none⟩ (.slice a.vl.A a.vl.n a.vl.c)):=
  ⟨a,rfl,⟨h.1,(zc1 h.2.1 hr _ _ _ _).mono (Nat.le_succ _),(zc1 h.2.2 hr _ _ _ _).mono (Nat.le_succ _)⟩,zfZ hs hgr _ _ _ _,zl2 hv (Nat.le_refl _) _ _ _ _⟩
end
structure AtN (g:Nat) (L r R U:Ch) (c:UInt8 × Int) (u:LT) (v4 v5:Value) (wc:World) (F:Nat->Bool) (x4 x9 x10 x11 x12 x13 x14 x15 x16 x17:Value) (w:World):Prop where
  sv:Sv g wc w
  h0:F 0=true->x9=.agg #[.string u.s,.slice u.A u.n u.c]
  h1:F 1=true->x10=.pointer (some ⟨g,0,none⟩)
  h2:F 2=true->x11=.pointer (some ⟨g,0,none⟩)
  h3:F 3=true->x12=.pointer (some ⟨g,0,none⟩)
  sr:F 4=false->Src w g L r v4 v5
  sR:F 4=true->Src w g L R v4 v5
  h4:F 4=true->ResL U wc.heap.size w x13
  h5:F 5=true->F 6=false->LitL u U wc.heap.size w x14
  h6:F 6=true->ResL (c::U) wc.heap.size w x15
  h7:F 7=true->ResL (lowL (c::U)) wc.heap.size w x16
  h8:F 8=true->ResN (lowL (c::U)) wc.heap.size w x17
  h9:F 9=true->VarN (lowL (c::U)) wc.heap.size w x4 (F 10)
  h10:F 10=true->F 9=true/\F 8=true
  c7:F 7=true->F 6=true
  c8:F 8=true->F 7=true
theorem AtN.sv'{g:Nat}{L r R U:Ch}{c:UInt8 × Int}{u:LT}{v4 v5:Value}{wc:World}{F:Nat->Bool}{x4 x9 x10 x11 x12 x13 x14 x15 x16 x17:Value}{w w':World}(h:AtN g L r R U c u v4 v5 wc F x4 x9 x10 x11 x12 x13 x14 x15 x16 x17 w)(hv:Sv g w w')(hg:g < wc.heap.size)(a1:F 4=false->Src w' g L r v4 v5)(a2:F 4=true->Src w' g L R v4 v5):AtN g L r R U c u v4 v5 wc F x4 x9 x10 x11 x12 x13 x14 x15 x16 x17 w':=
  ⟨h.sv.trans hv,h.h0,h.h1,h.h2,h.h3,a1,a2,(fun e=>(h.h4 e).sv hv hg),(fun e e2=>(h.h5 e e2).sv hv hg),(fun e=>(h.h6 e).sv hv hg),(fun e=>(h.h7 e).sv hv hg),(fun e=>(h.h8 e).sv hv hg),(fun e=>(h.h9 e).sv hv hg),h.h10,h.c7,h.c8⟩
theorem AtN.below{g:Nat}{L r R U:Ch}{c:UInt8 × Int}{u:LT}{v4 v5:Value}{wc:World}{F:Nat->Bool}{x4 x9 x10 x11 x12 x13 x14 x15 x16 x17:Value}{w w':World}(h:AtN g L r R U c u v4 v5 wc F x4 x9 x10 x11 x12 x13 x14 x15 x16 x17 w)(hb:Below w.heap.size w w')(hg:g < wc.heap.size):AtN g L r R U c u v4 v5 wc F x4 x9 x10 x11 x12 x13 x14 x15 x16 x17 w':=
  h.sv' (Moved.of_below hb) hg (fun e=>(h.sr e).next hb) (fun e=>(h.sR e).next hb)
theorem znH{w:World}{b B:Nat}{c:UInt8 × Int}{U:Ch}{u t:LT}(hc:u.ch=[c])(hU:U.length+1<=268435456)(hu:OwnL w B u)(ht:OwnL w B t)(hte:t.ch=U)(hW:Whole w b 24 #[.string u.s,.slice u.A u.n u.c,.string t.s,.slice t.A t.n t.c]) :
    Calls Tryz.prog 54 #[.slice (some ⟨b,0,none⟩) 2 2] w (zfV (c::U) w):=by
  have e:zY [u,t]=c::U:=by show u.ch++ (t.ch++ [])=_;rw[hc,hte];simp
  have:=zg6 [u,t] (some ⟨b,0,none⟩) 2 2 w (znG hW) rfl (by omega) (by
    intro x hx
    rcases List.mem_cons.1 hx with rfl | hx
    . exact hu.ok
    . obtain rfl:=List.mem_singleton.1 hx
      exact ht.ok) (by rw[e,List.length_cons];omega)
  rw[e]at this
  exact this
theorem zhg{g:Nat}{L r:Ch}{c:UInt8 × Int}{v4 v5:Value}(w:World)(h:Src w g L (c::r) v4 v5) :
    Calls Tryz.prog 171 #[.pointer (some ⟨g,0,none⟩)] w (zl1 g L (zcJ (zW c r).1) (zW c r).2 v4 v5 w):=by
  have hlt:=h.lt
  have hlen:=h.len
  have H:=Lib.hid h
  have HIN:=Lib.hid h.inr
  clear h
  go_enter Tryz.func171,Tryz.ntmps171
  go_wp2_with fail
  generalize hw0:w.alloc (.cells #[.string ⟨#[]⟩,.slice none 0 0,.string ⟨#[]⟩,.slice none 0 0] 93)=w0
  have y0:Hid (Whole w0 w.heap.size 93 #[.string ⟨#[]⟩,.slice none 0 0,.string ⟨#[]⟩,.slice none 0 0]):=by rw[<-hw0];exact Whole.made w _ _
  have hb0:Below w.heap.size w w0:=by rw[<-hw0];exact(Below.refl _ _).alloc (Nat.le_refl _) _
  have HS0:=Lib.hid (H.out.next hb0)
  have HV0:Hid (Sv g w w0):=Moved.of_below hb0
  clear hw0 hb0
  refine(zi4 1 HS0.out (by rw[List.length_cons];omega)).mono ?_
  rintro e w1 ⟨u,rfl,hu,hs1,hv1⟩
  rw[List.take_succ_cons,List.take_zero,List.drop_succ_cons,List.drop_zero]at *
  have HS1:=Lib.hid hs1
  have HV1:Hid (Sv g w w1):=HV0.out.trans hv1
  have Y1:Hid (Whole w1 w.heap.size 93 #[.string ⟨#[]⟩,.slice none 0 0,.string ⟨#[]⟩,.slice none 0 0]):=hv1.whole y0.out (by omega)
  have hz1:w.heap.size < w1.heap.size:=Y1.out.lt
  have HU1:Hid (u.ch=[c]/\OwnL w1 (w.heap.size+1) u):=⟨hu.out.1,hu.out.2.mono y0.out.lt⟩
  clear hs1 hv1 hu y0
  generalize hw2:w1.alloc (.cells #[.string u.s,.slice u.A u.n u.c] 24)=w2
  have Y2:Hid (Whole w2 w1.heap.size 24 #[.string u.s,.slice u.A u.n u.c]):=by rw[<-hw2];exact Whole.made _ _ _
  have hb2:Below w1.heap.size w1 w2:=by rw[<-hw2];exact(Below.refl _ _).alloc (Nat.le_refl _) _
  have HS2:=Lib.hid (HS1.out.next hb2)
  have HV2:Hid (Sv g w w2):=HV1.out.trans (Moved.of_below hb2)
  have YA2:=Lib.hid (Y1.out.below hb2 Y1.out.lt)
  have HU2:Hid (OwnL w2 (w.heap.size+1) u):=HU1.out.2.below hb2
  have hz2:w1.heap.size < w2.heap.size:=Y2.out.lt
  clear hb2
  have HTK:Hid (∀ V,Src V g L r v4 v5->Calls Tryz.prog 147 #[.pointer (some ⟨g,0,none⟩),.string ⟨#[9,10,12,32,47,62,61]⟩] V (zhb g L (zr endN r) (zH endN r) v4 v5 V)):=fun V hV=>zhe ⟨#[9,10,12,32,47,62,61]⟩ endN hV (by decide) (by decide) (zey (by decide)) zpV
  have hul:=zi3 endN r
  have hrl:(c::r).length<=268435456:=by omega
  rw[List.length_cons]at hrl
  have HUL:Hid ((zr endN r).length+1<=268435456):=by show _<=_;omega
  have HQ:Hid (zW c r=if isA [61] (zo spcB (zH endN r)) then ((c::zr endN r,(qVal (zo spcB (zo spcB (zH endN r)).tail)).1),(qVal (zo spcB (zo spcB (zH endN r)).tail)).2) else ((c::zr endN r,[]),zo spcB (zH endN r))):=rfl
  clear hul hrl hlen
  generalize zr endN r=U at *
  generalize zH endN r=R at *
  have HCAT:Hid (∀ (V:World) (b:Nat) (t:LT),OwnL V (w.heap.size+1) u->OwnL V w2.heap.size t->t.ch=U->Whole V b 24 #[.string u.s,.slice u.A u.n u.c,.string t.s,.slice t.A t.n t.c]->Calls Tryz.prog 54 #[.slice (some ⟨b,0,none⟩) 2 2] V (zfV (c::U) V)):=fun V b t a1 a2 a3 a4=>znH HU1.out.1 HUL.out a1 (a2.mono (by omega)) a3 a4
  have hg2:g < w2.heap.size:=by omega
  go_upto_region 2 with fail
  go_cut [4] (fun s4 wx=>∃ (b:Nat) (t:LT),s4=.pointer (some ⟨b,0,none⟩)/\w2.heap.size<=b/\Whole wx b 93 #[.string t.s,.slice t.A t.n t.c,.string ⟨#[]⟩,.slice none 0 0]/\t.ch=lowL (c::U)/\OwnL wx w2.heap.size t/\Src wx g L R v4 v5/\Sv g w2 wx)
  case first=>
    refine wp_region_any (by kernel_rfl) ?_
    refine zke (fun listed a w'=>listed.size=11/\∃ x4 x9 x10 x11 x12 x13 x14 x15 x16 x17,a=⟨#[.pointer (some ⟨g,0,none⟩),undef,.pointer (some ⟨w.heap.size,0,none⟩),.pointer (some ⟨w1.heap.size,0,none⟩),x4,.pointer (some ⟨g,0,none⟩),.pointer (some ⟨g,0,none⟩),.pointer (some ⟨g,0,none⟩),.agg #[.string u.s,.slice u.A u.n u.c],x9,x10,x11,x12,x13,x14,x15,x16,x17,undef,undef,undef,undef,undef,undef,undef,undef,undef,undef,undef,undef,undef,undef,undef,undef,undef,undef,undef,undef,undef],[]⟩/\AtN g L r R U c u v4 v5 w2 (fun k=>listed.getD k false) x4 x9 x10 x11 x12 x13 x14 x15 x16 x17 w') ?_ ?_ _ _ _ _ (by rfl) (by decide) ⟨rfl,_,_,_,_,_,_,_,_,_,_,rfl,?_⟩
    . rintro listed a w' ⟨hsz,x4,x9,x10,x11,x12,x13,x14,x15,x16,x17,rfl,h⟩ hr
      have al:=zkf (md:=.any) hsz (by kernel_rfl) hr
      have al':∀ k,k < 11->listed.getD k false=true:=al
      obtain⟨b,hy,hb0,_,hbT⟩:=h.h9 (al' 9 (by decide))
      obtain⟨t,hbW,ht1,ht2⟩:=hbT (al' 10 (by decide))
      subst hy
      go_wp2_with fail
      go_meet
      exact⟨b,t,rfl,hb0,hbW,ht1,ht2,h.sR (al' 4 (by decide)),h.sv⟩
    . rintro listed a w' i ⟨hsz,x4,x9,x10,x11,x12,x13,x14,x15,x16,x17,rfl,h⟩ hi
      obtain⟨hi1,hi2,hrd⟩:=zdV hi
      have hy2:=h.sv.whole Y2.out (by omega)
      have d0:w'.cell? ⟨w1.heap.size,0,none⟩=some (.string u.s):=hy2.at_ 0
      have d1:w'.cell? ⟨w1.heap.size,1,none⟩=some (.slice u.A u.n u.c):=hy2.at_ 1
      clear hy2
      have hN:i=0\/i=1\/i=2\/i=3\/i=4\/i=5\/i=6\/i=7\/i=8\/i=9\/i=10:=by have:i < 11:=hi1;omega
      rcases hN with rfl | rfl | rfl | rfl | rfl | rfl | rfl | rfl | rfl | rfl | rfl
      . have hlt:0 < listed.size:=by rw[hsz];decide
        have nme:=zaS hi2
        clear hrd hi
        refine wpOp_step (i:=0) rfl (fun K' hK=>?_)
        go_simp
        refine hK _ _ ⟨by simpa using hsz,x4,_,x10,x11,x12,x13,x14,x15,x16,x17,rfl,?_⟩
        rw[zat hlt]
        exact⟨h.sv,(fun _=>rfl),h.h1,h.h2,h.h3,h.sr,h.sR,h.h4,h.h5,h.h6,h.h7,h.h8,h.h9,(fun e=>⟨zx (h.h10 e).1,zx (h.h10 e).2⟩),(fun e=>zx (h.c7 e)),(fun e=>zx (h.c8 e))⟩
      . have hlt:1 < listed.size:=by rw[hsz];decide
        have nme:=zaS hi2
        clear hrd hi
        refine wpOp_step (i:=1) rfl (fun K' hK=>?_)
        go_simp
        refine hK _ _ ⟨by simpa using hsz,x4,x9,_,x11,x12,x13,x14,x15,x16,x17,rfl,?_⟩
        rw[zat hlt]
        exact⟨h.sv,h.h0,(fun _=>rfl),h.h2,h.h3,h.sr,h.sR,h.h4,h.h5,h.h6,h.h7,h.h8,h.h9,(fun e=>⟨zx (h.h10 e).1,zx (h.h10 e).2⟩),(fun e=>zx (h.c7 e)),(fun e=>zx (h.c8 e))⟩
      . have hlt:2 < listed.size:=by rw[hsz];decide
        have nme:=zaS hi2
        have hd:listed.getD 1 false=true:=by simp [Region.binds]at hrd;simp [hrd]
        have e1:=hd
        clear hrd hi
        obtain rfl:=h.h1 e1
        refine wpOp_step (i:=2) rfl (fun K' hK=>?_)
        go_simp
        refine hK _ _ ⟨by simpa using hsz,x4,x9,_,_,x12,x13,x14,x15,x16,x17,rfl,?_⟩
        rw[zat hlt]
        exact⟨h.sv,h.h0,h.h1,(fun _=>rfl),h.h3,h.sr,h.sR,h.h4,h.h5,h.h6,h.h7,h.h8,h.h9,(fun e=>⟨zx (h.h10 e).1,zx (h.h10 e).2⟩),(fun e=>zx (h.c7 e)),(fun e=>zx (h.c8 e))⟩
      . have hlt:3 < listed.size:=by rw[hsz];decide
        have nme:=zaS hi2
        have hd:listed.getD 2 false=true:=by simp [Region.binds]at hrd;simp [hrd]
        have e2:=hd
        clear hrd hi
        obtain rfl:=h.h2 e2
        refine wpOp_step (i:=3) rfl (fun K' hK=>?_)
        go_simp
        refine hK _ _ ⟨by simpa using hsz,x4,x9,x10,_,_,x13,x14,x15,x16,x17,rfl,?_⟩
        rw[zat hlt]
        exact⟨h.sv,h.h0,h.h1,h.h2,(fun _=>rfl),h.sr,h.sR,h.h4,h.h5,h.h6,h.h7,h.h8,h.h9,(fun e=>⟨zx (h.h10 e).1,zx (h.h10 e).2⟩),(fun e=>zx (h.c7 e)),(fun e=>zx (h.c8 e))⟩
      . have hlt:4 < listed.size:=by rw[hsz];decide
        have nme:=zaS hi2
        have hd:listed.getD 3 false=true:=by simp [Region.binds]at hrd;simp [hrd]
        have e3:=hd
        clear hrd hi
        obtain rfl:=h.h3 e3
        refine wpOp_step (i:=4) rfl (fun K' hK=>?_)
        go_simp
        refine(HTK.out _ (h.sr nme)).mono ?_
        rintro e w3 ⟨t,rfl,ht,hs3,hv3⟩
        refine hK _ _ ⟨by simpa using hsz,x4,x9,x10,x11,_,_,x14,x15,x16,x17,rfl,?_⟩
        rw[zat hlt]
        have hz3:=h.sv.size
        exact⟨h.sv.trans hv3,h.h0,h.h1,h.h2,h.h3,(fun e=>absurd (show(true:Bool)=false from e) (by decide)),(fun _=>hs3),(fun _=>⟨t,rfl,ht.out.1,ht.out.2.mono hz3⟩),(fun e e2=>(h.h5 e e2).sv hv3 hg2),(fun e=>(h.h6 e).sv hv3 hg2),(fun e=>(h.h7 e).sv hv3 hg2),(fun e=>(h.h8 e).sv hv3 hg2),(fun e=>(h.h9 e).sv hv3 hg2),(fun e=>⟨zx (h.h10 e).1,zx (h.h10 e).2⟩),(fun e=>zx (h.c7 e)),(fun e=>zx (h.c8 e))⟩
      . have hlt:5 < listed.size:=by rw[hsz];decide
        have nme:=zaS hi2
        have hd:listed.getD 0 false=true/\listed.getD 4 false=true:=by simp [Region.binds]at hrd;simp [hrd]
        obtain⟨e0,e4⟩:=hd
        clear hrd hi
        obtain rfl:=h.h0 e0
        obtain⟨t,hx,ht1,ht2⟩:=h.h4 e4
        subst hx
        refine wpOp_step (i:=5) rfl (fun K' hK=>?_)
        go_simp
        refine hK _ _ ⟨by simpa using hsz,x4,_,x10,x11,x12,_,_,x15,x16,x17,rfl,?_⟩
        rw[zat hlt]
        have h':=h.below ((Below.refl _ _).alloc (Nat.le_refl _) (.cells #[.string u.s,.slice u.A u.n u.c,.string t.s,.slice t.A t.n t.c] 24)) hg2
        exact⟨h'.sv,h'.h0,h'.h1,h'.h2,h'.h3,h'.sr,h'.sR,h'.h4,(fun _ _=>⟨_,t,rfl,h.sv.size,ht1,ht2.below ((Below.refl _ _).alloc (Nat.le_refl _) _),Whole.made _ _ _⟩),h'.h6,h'.h7,h'.h8,h'.h9,(fun e=>⟨zx (h'.h10 e).1,zx (h'.h10 e).2⟩),(fun e=>zx (h'.c7 e)),(fun e=>zx (h'.c8 e))⟩
      . have hlt:6 < listed.size:=by rw[hsz];decide
        have nme:=zaS hi2
        have hd:listed.getD 5 false=true:=by simp [Region.binds]at hrd;simp [hrd]
        have e5:=hd
        clear hrd hi
        obtain⟨b,t,hx,hb0,ht1,ht2,hbW⟩:=h.h5 e5 nme
        subst hx
        refine wpOp_step (i:=6) rfl (fun K' hK=>?_)
        go_simp
        refine(HCAT.out w' b t (OwnL.sv HU2.out h.sv (by omega)) ht2 ht1 hbW).mono ?_
        rintro e w4 ⟨t4,rfl,ht4,hb4⟩
        refine hK _ _ ⟨by simpa using hsz,x4,x9,x10,x11,x12,x13,_,_,x16,x17,rfl,?_⟩
        rw[zat hlt]
        have h':=h.below hb4 hg2
        exact⟨h'.sv,h'.h0,h'.h1,h'.h2,h'.h3,h'.sr,h'.sR,h'.h4,(fun _ e=>absurd (show(true:Bool)=false from e) (by decide)),(fun _=>⟨t4,rfl,ht4.out.1,ht4.out.2.mono h.sv.size⟩),h'.h7,h'.h8,h'.h9,(fun e=>⟨zx (h'.h10 e).1,zx (h'.h10 e).2⟩),(fun _=>rfl),(fun e=>zx (h'.c8 e))⟩
      . have hlt:7 < listed.size:=by rw[hsz];decide
        have nme:=zaS hi2
        have hd:listed.getD 6 false=true:=by simp [Region.binds]at hrd;simp [hrd]
        have e6:=hd
        clear hrd hi
        obtain⟨t,hx,ht1,ht2⟩:=h.h6 e6
        subst hx
        refine wpOp_step (i:=7) rfl (fun K' hK=>?_)
        go_simp
        refine(zg7 t w' ht2.ok).mono ?_
        rintro e w4 ⟨t4,rfl,ht4,hb4⟩
        refine hK _ _ ⟨by simpa using hsz,x4,x9,x10,x11,x12,x13,x14,_,_,x17,rfl,?_⟩
        rw[zat hlt]
        have h':=h.below hb4 hg2
        exact⟨h'.sv,h'.h0,h'.h1,h'.h2,h'.h3,h'.sr,h'.sR,h'.h4,h'.h5,h'.h6,(fun _=>⟨t4,rfl,by rw[ht4.out.1,ht1],ht4.out.2.mono h.sv.size⟩),h'.h8,h'.h9,(fun e=>⟨zx (h'.h10 e).1,zx (h'.h10 e).2⟩),(fun _=>zx e6),(fun _=>rfl)⟩
      . have hlt:8 < listed.size:=by rw[hsz];decide
        have nme:=zaS hi2
        have hd:listed.getD 7 false=true:=by simp [Region.binds]at hrd;simp [hrd]
        have e7:=hd
        clear hrd hi
        obtain⟨t,hx,ht1,ht2⟩:=h.h7 e7
        subst hx
        refine wpOp_step (i:=8) rfl (fun K' hK=>?_)
        go_simp
        refine hK _ _ ⟨by simpa using hsz,x4,x9,x10,x11,x12,x13,x14,x15,_,_,rfl,?_⟩
        rw[zat hlt]
        exact⟨h.sv,h.h0,h.h1,h.h2,h.h3,h.sr,h.sR,h.h4,h.h5,h.h6,h.h7,(fun _=>⟨t,rfl,ht1,ht2⟩),h.h9,(fun e=>⟨zx (h.h10 e).1,zx (h.h10 e).2⟩),(fun e=>zx (h.c7 e)),(fun _=>zx e7)⟩
      . have hlt:9 < listed.size:=by rw[hsz];decide
        have nme:=zaS hi2
        clear hrd hi
        have nl:listed.getD 10 false=false:=by cases hx:listed.getD 10 false with | false=>rfl | true=>exact absurd (h.h10 hx).1 (by rw[nme];decide)
        refine wpOp_step (i:=9) rfl (fun K' hK=>?_)
        go_simp
        refine hK _ _ ⟨by simpa using hsz,_,x9,x10,x11,x12,x13,x14,x15,x16,x17,rfl,?_⟩
        rw[zat hlt]
        have h':=h.below ((Below.refl _ _).alloc (Nat.le_refl _) (.cells #[.string ⟨#[]⟩,.slice none 0 0,.string ⟨#[]⟩,.slice none 0 0] 93)) hg2
        exact⟨h'.sv,h'.h0,h'.h1,h'.h2,h'.h3,h'.sr,h'.sR,h'.h4,h'.h5,h'.h6,h'.h7,h'.h8,(fun _=>⟨_,rfl,h.sv.size,fun _=>Whole.made _ _ _,fun e=>absurd (show listed.getD 10 false=true from e) (by rw[nl];decide)⟩),(fun e=>⟨zx (h'.h10 e).1,zx (h'.h10 e).2⟩),(fun e=>zx (h'.c7 e)),(fun e=>zx (h'.c8 e))⟩
      . have hlt:10 < listed.size:=by rw[hsz];decide
        have nme:=zaS hi2
        have hd:listed.getD 9 false=true/\listed.getD 8 false=true:=by simp [Region.binds]at hrd;simp [hrd]
        obtain⟨e9,e8⟩:=hd
        clear hrd hi
        have e7:=h.c8 e8
        have e6:=h.c7 e7
        obtain⟨t,hx,ht1,ht2⟩:=h.h8 e8
        subst hx
        obtain⟨b,hy,hb0,hbZ,_⟩:=h.h9 e9
        subst hy
        have hbW:=hbZ nme
        have k0:=hbW.at_ 0
        have f0:=hbW.free 0
        have k1:=hbW.at_ 1
        have f1:=hbW.free 1
        have k2:=hbW.at_ 2
        have f2:=hbW.free 2
        have k3:=hbW.at_ 3
        have f3:=hbW.free 3
        refine wpOp_step (i:=10) rfl (fun K' hK=>?_)
        go_simp
        refine hK _ _ ⟨by simpa using hsz,_,x9,x10,x11,x12,x13,x14,x15,x16,_,rfl,?_⟩
        rw[zat hlt]
        have hp:=fun {l:Ch} {B:Nat} {x:Value} (hr:ResL l B w' x)=>hr.put4 hbW (.string t.s) (.slice t.A t.n t.c) (.string ⟨#[]⟩) (.slice none 0 0)
        exact⟨zl2 h.sv hb0 _ _ _ _,h.h0,h.h1,h.h2,h.h3,(fun e=>zfZ (h.sr e) (by omega) _ _ _ _),(fun e=>zfZ (h.sR e) (by omega) _ _ _ _),(fun e=>hp (h.h4 e)),(fun _ e=>absurd (show listed.getD 6 false=false from e) (by rw[e6];decide)),(fun e=>hp (h.h6 e)),(fun e=>hp (h.h7 e)),(fun _=>⟨t,rfl,ht1,zc1 ht2 hbW _ _ _ _⟩),(fun _=>⟨b,rfl,hb0,fun e=>absurd (show(true:Bool)=false from e) (by decide),fun _=>⟨t,zjZ hbW _ _ _ _,ht1,zc1 ht2 hbW _ _ _ _⟩⟩),(fun _=>⟨zx e9,zx e8⟩),(fun e=>zx (h.c7 e)),(fun e=>zx (h.c8 e))⟩
    . exact⟨Moved.drew (Moved.refl _ _),(fun e=>absurd e (by decide)),(fun e=>absurd e (by decide)),(fun e=>absurd e (by decide)),(fun e=>absurd e (by decide)),(fun _=>HS2.out.drew),(fun e=>absurd e (by decide)),(fun e=>absurd e (by decide)),(fun e=>absurd e (by decide)),(fun e=>absurd e (by decide)),(fun e=>absurd e (by decide)),(fun e=>absurd e (by decide)),(fun e=>absurd e (by decide)),(fun e=>absurd e (by decide)),(fun e=>absurd e (by decide)),(fun e=>absurd e (by decide))⟩
  case rest=>
    obtain⟨b,t,rfl,hb0,hbW,ht1,ht2,hsR,hvR⟩:=hcut
    have HS3:=Lib.hid hsR
    have HV3:Hid (Sv g w wc):=HV2.out.trans hvR
    have YA3:Hid (Whole wc w.heap.size 93 #[.string ⟨#[]⟩,.slice none 0 0,.string ⟨#[]⟩,.slice none 0 0]):=hvR.whole YA2.out (by omega)
    have HB3:=Lib.hid hbW
    have HT3:Hid (t.ch=lowL (c::U)/\OwnL wc (w.heap.size+1) t):=⟨ht1,ht2.mono (by omega)⟩
    have hgb:g≠b:=by omega
    have hgw:g≠w.heap.size:=by omega
    have hbw:w.heap.size≠b:=by omega
    clear hbW ht1 ht2 hsR hvR HCAT HTK HU2 HS2 HS1 HS0 HV2 HV1 HV0 YA2 Y1 Y2 H HU1 hw2
    obtain⟨wd,hwd⟩:∃ wd:World,wd=wc:=⟨_,rfl⟩
    rw[<-hwd]at HS3 HV3 YA3 HB3 HT3 ⊢
    clear hwd
    go_wp2_with fail
    refine(zhd ⟨#[9,10,12,32]⟩ spcB HS3.out (by decide) zl0).mono ?_
    rintro e w4 ⟨rfl,hs4,hv4⟩
    have HS4:=Lib.hid hs4
    have HV4:Hid (Sv g w w4):=HV3.out.trans hv4
    have YA4:=Lib.hid (hv4.whole YA3.out (Ne.symm hgw))
    have HB4:=Lib.hid (hv4.whole HB3.out (Ne.symm hgb))
    have HT4:Hid (t.ch=lowL (c::U)/\OwnL w4 (w.heap.size+1) t):=⟨HT3.out.1,HT3.out.2.sv hv4 (by omega)⟩
    clear hs4 hv4 HS3 HV3 YA3 HB3 HT3
    go_wp2_with fail
    refine(zK ⟨#[61]⟩ HS4.out).mono ?_
    rintro e w5 ⟨rfl,n5,rfl⟩
    have HS5:=Lib.hid (HS4.out.drewN n5)
    have hv5:Sv g w4 (w4.drewN n5):=Moved.of_below ((Below.refl _ _).drewN n5)
    have HV5:Hid (Sv g w (w4.drewN n5)):=HV4.out.trans hv5
    have YA5:=Lib.hid (hv5.whole YA4.out (Ne.symm hgw))
    have HB5:=Lib.hid (hv5.whole HB4.out (Ne.symm hgb))
    have HT5:Hid (t.ch=lowL (c::U)/\OwnL (w4.drewN n5) (w.heap.size+1) t):=⟨HT4.out.1,HT4.out.2.sv hv5 (by omega)⟩
    clear hv5 HS4 HV4 YA4 HB4 HT4
    generalize w4.drewN n5=w5 at *
    rw[show isA (ByteArray.mk #[61]).data.toList (zo spcB R)=isA [61] (zo spcB R)from rfl]
    cases hq:isA [61] (zo spcB R) with
    | true=>
      have HQ':Hid (zW c r=((c::U,(qVal (zo spcB (zo spcB R).tail)).1),(qVal (zo spcB (zo spcB R).tail)).2)):=by show _=_;rw[HQ.out,if_pos hq]
      clear hq HQ
      go_wp2_with fail
      refine(zcD 1 HS5.out (by omega)).mono ?_
      rw[List.drop_one]
      rintro e w6 ⟨rfl,hs6,hv6⟩
      have HS6:=Lib.hid hs6
      go_wp2_with fail
      refine(zhd ⟨#[9,10,12,32]⟩ spcB HS6.out (by decide) zl0).mono ?_
      rintro e w7 ⟨rfl,hs7,hv7⟩
      have HS7:=Lib.hid hs7
      go_wp2_with fail
      refine(zfY w7 HS7.out).mono ?_
      rintro e w8 ⟨v,rfl,hv,hs8,hv8⟩
      go_wp2_with fail
      refine(zg8 v w8 hv.out.2.ok).mono ?_
      rintro e w9 ⟨x,rfl,hx,hb9⟩
      have hv9:Sv g w5 w9:=((hv6.trans hv7).trans hv8).trans (Moved.of_below hb9)
      have HS9:=Lib.hid (hs8.next hb9)
      have HV9:Hid (Sv g w w9):=HV5.out.trans hv9
      have ya:=hv9.whole YA5.out (Ne.symm hgw)
      have hb:=hv9.whole HB5.out (Ne.symm hgb)
      have HT9:Hid (t.ch=lowL (c::U)/\OwnL w9 (w.heap.size+1) t):=⟨HT5.out.1,HT5.out.2.sv hv9 (by omega)⟩
      have hz9:w.heap.size+1<=w8.heap.size:=Nat.le_trans YA5.out.lt ((hv6.trans hv7).trans hv8).size
      have HX9:Hid (x.ch=decE (qVal (zo spcB (zo spcB R).tail)).1/\OwnL w9 (w.heap.size+1) x):=⟨hx.out.1.trans (by rw[hv.out.1]),hx.out.2.mono hz9⟩
      have YA9:=Lib.hid ya
      have HB9:=Lib.hid hb
      have f2:=hb.free 2
      have f3:=hb.free 3
      have c2:=hb.at_ 2
      have c3:=hb.at_ 3
      have c0:=hb.at_ 0
      have c1:=hb.at_ 1
      have d0:=ya.at_ 0
      have d1:=ya.at_ 1
      have d2:=ya.at_ 2
      have d3:=ya.at_ 3
      have k0:=ya.free 0
      have k1:=ya.free 1
      have k2:=ya.free 2
      have k3:=ya.free 3
      clear hs6 hs7 hs8 hv6 hv7 hv8 hv hx hb9 hv9 hb ya HS5 HV5 YA5 HB5 HT5 HS6 HS7
      go_wp2
      refine bodyPost_ret (v:=.agg #[.string t.s,.slice t.A t.n t.c,.string x.s,.slice x.A x.n x.c]) ?_ rfl ?_
      . simp [results,Tryz.results171,go_sem,d0,d1,d2,d3]
      . have hb2:=HB9.out.put 2 (.string x.s)
        have hb3:=hb2.put 3 (.slice x.A x.n x.c)
        rw[HQ'.out]
        refine zez (a:=⟨t,x⟩) (W:=(w9.setCell ⟨b,2,none⟩ (.string x.s)).setCell ⟨b,3,none⟩ (.slice x.A x.n x.c)) hlt ⟨?_,zbu (zbu HT9.out.2 HB9.out) hb2,zbu (zbu HX9.out.2 HB9.out) hb2⟩ ((HS9.out.far ⟨b,2,none⟩ (by show g < b;omega) _).far ⟨b,3,none⟩ (by show g < b;omega) _) ((HV9.out.setNew (p:=⟨b,2,none⟩) (by show _<=b;omega) _).setNew (p:=⟨b,3,none⟩) (by show _<=b;omega) _) ((YA9.out.far ⟨b,2,none⟩ hbw _).far ⟨b,3,none⟩ hbw _)
        show(t.ch,x.ch)=_
        rw[HT9.out.1,HX9.out.1]
        rfl
    | false=>
      have HQ':Hid (zW c r=((c::U,[]),zo spcB R)):=by show _=_;rw[HQ.out,if_neg (by rw[hq];decide)]
      clear hq HQ
      have ya:=YA5.out
      have hb:=HB5.out
      have c2:=hb.at_ 2
      have c3:=hb.at_ 3
      have c0:=hb.at_ 0
      have c1:=hb.at_ 1
      have d0:=ya.at_ 0
      have d1:=ya.at_ 1
      have d2:=ya.at_ 2
      have d3:=ya.at_ 3
      have k0:=ya.free 0
      have k1:=ya.free 1
      have k2:=ya.free 2
      have k3:=ya.free 3
      clear hb ya
      go_wp2
      refine bodyPost_ret (v:=.agg #[.string t.s,.slice t.A t.n t.c,.string ⟨#[]⟩,.slice none 0 0]) ?_ rfl ?_
      . simp [results,Tryz.results171,go_sem,d0,d1,d2,d3]
      . rw[HQ'.out]
        refine zez (a:=⟨t,noLT13⟩) (W:=w5) hlt ⟨?_,HT5.out.2,zbQ _ _⟩ HS5.out HV5.out YA5.out
        show(t.ch,noLT13.ch)=_
        rw[HT5.out.1,zcm]
        show _=(lowL (c::U),decE [])
        rw[zb0]
end Go.Proofs.YtddgabjhligeeaaGreat.mk
