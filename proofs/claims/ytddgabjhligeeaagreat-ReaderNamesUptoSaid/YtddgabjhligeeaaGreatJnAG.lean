import Derived.RangeFuncNested
import Derived.RangeFuncBound
import Derived.RangeFuncCalls
import Derived.OrdersIn
import Derived.Test.YtddgabjhligeeaaGreatJnX
set_option maxHeartbeats 1000000
namespace Go.Proofs.YtddgabjhligeeaaGreat.mk
open Go.RowKit
theorem Moved.join{X Y:Nat->Prop}{a b c:World}(h:Moved X a b)(k:Moved Y b c)(hY:∀ i,i < a.heap.size->Y i->X i):Moved X a c:=
  ⟨k.os.trans h.os,k.tape.trans h.tape,k.output.trans h.output,Nat.le_trans h.size k.size,fun i hi hx=>(k.block i (Nat.lt_of_lt_of_le hi h.size) (fun e=>hx (hY i hi e))).trans (h.block i hi hx)⟩
theorem Moved.mono{X Y:Nat->Prop}{a b:World}(h:Moved X a b)(hY:∀ i,i < a.heap.size->X i->Y i):Moved Y a b:=
  ⟨h.os,h.tape,h.output,h.size,fun i hi hy=>h.block i hi fun e=>hy (hY i hi e)⟩
theorem Moved.putObj(w:World)(l:Nat)(o:Obj):Moved (fun b=>b=l) w (w.putObj l o):=
  ⟨rfl,rfl,rfl,by simp,fun _ _ hk=>World.putObj_heap_other hk⟩
theorem Moved.stays{X S:Nat->Prop}{a b:World}(h:Moved X a b)(hs:∀ i,i < a.heap.size->S i->¬ X i):Stays S a b:=⟨h.size,fun i hi hb=>h.block i hb (hs i hb hi)⟩
theorem zjx{l n:Nat}{P:Program}{o:Oper}{a:Act}{w:World}{K:Act->World->Prop}{Q:Exit->Act->World->Prop}(hnd:∀ c,o.op≠.defer c)(h:o.wp P a w K Q):o.wpIn (Fence.wide.inRound l) n P a w K Q:=by
  unfold Oper.wp at h
  unfold Oper.wpIn
  refine⟨fun _ _=>trivial,?_⟩
  rw[Fence.inRound_round,Oper.semAt_some _ _ _ hnd]
  generalize (execOp a.eval o).run P w=r at *
  cases r with
  | ok x w'=>
    cases x with
    | value v=>exact h
    | skip=>exact h
    | defer d=>exact h
    | enter f args=>exact⟨(fun hd=>by cases hd),CallsIn.inRound l (callsIn_wide.2 h)⟩
    | row r args=>
      refine⟨(fun hd=>by cases hd),fun c cs _=>?_⟩
      obtain⟨v,w'',hR,hs⟩:=(show Rows P r args w' _ from h) c cs
      exact⟨v,w'',hR,stepsIn_wide.2 hs⟩
    | _=>exact(h:False).elim
  | halt x w'=>cases x<;>exact h
def calm(ops:Array Oper):Bool:=ops.toList.all fun o=>match o.op with | .defer _=>false | _=>true
theorem zoH{ops:Array Oper}(h:calm ops=true){i:Nat}{o:Oper}(ho:ops[i]?=some o):∀ c,o.op≠.defer c:=by
  intro c e
  have:=List.all_eq_true.1 h o (List.mem_of_getElem? (by rw[Array.getElem?_toList];exact ho))
  rw[e]at this
  cases this
theorem zk8{l n:Nat}{P:Program}{md:Region.Mode}{ops:Array Oper}{Q:Exit->Act->World->Prop}(hc:calm ops=true)(hL:¬ LetsOut Q) :
    ∀ (fuel:Nat) (listed:Array Bool) (a:Act) (w:World),wpAny P md ops Q fuel listed a w->wpAnyIn (Fence.wide.inRound l) n P md ops Q fuel listed a w:=by
  intro fuel
  induction fuel with
  | zero=>exact fun _ _ _ h=>h
  | succ fuel ih=>
    intro listed a w h
    refine⟨h.1,fun i hi=>?_⟩
    have h2:=wpOp_mono (fun a' w' h'=>ih (listed.setIfInBounds i true) a' w' h') (h.2 i hi)
    unfold wpOp at h2
    unfold wpOpIn
    cases ho:ops[i]? with
    | none=>simp only[ho]at h2;exact h2
    | some o=>
      simp only[ho]at h2
      dsimp only
      by_cases hw:Region.wanted o (yielded ops a.tmps)=true
      . rw[if_pos hw]at h2 ⊢
        rcases h2 with h2 | ⟨_,h2⟩
        . exact zjx (zoH hc ho) h2
        . exact absurd h2 hL
      . rw[if_neg hw]at h2 ⊢
        exact⟨fun _ _=>trivial,h2⟩
theorem zch{l n:Nat}{P:Program}{id:Nat}{ops:Array Oper}{Q:Exit->Act->World->Prop}{a:Act}{w:World}(hm:P.follows .mixedOrders=true)(hc:calm ops=true)(hL:¬ LetsOut Q)
    (h:wpAny P .any ops Q ops.size (Array.replicate ops.size false) a w.drew):(Code.region id ops true).wpIn (Fence.wide.inRound l) n P Q a w:=
  wpIn_region_any hm (zk8 hc hL _ _ _ _ h)
section
variable {α : Type}
def Held(n1:Nat)(J:List α->(Nat->Prop)->World->Prop):Prop:=
  ∀ pre K W W',J pre K W->n1<=W.heap.size->Moved (fun b=>n1<=b/\¬ K b) W W'->J pre K W'
def zni(J:List α->(Nat->Prop)->World->Prop)(pre:List α)(x:α)(K G:Nat->Prop)(W:World)(e:Ending)(W':World):Prop:=
  e=.returned (.bool true)/\∃ K',J (pre++ [x]) K' W'/\(∀ b,K' b->K b\/G b\/(W.heap.size<=b/\b < W'.heap.size))/\Moved (fun b=>K b\/G b) W W'
def Takes(P:Program)(encs:α->Array Value)(l n1:Nat)(Sh:α->(Nat->Prop)->World->Prop)(okp:List α->Prop)(J:List α->(Nat->Prop)->World->Prop):Prop:=
  ∀ (pre:List α) (K G:Nat->Prop) (x:α) (W:World),J pre K W->Sh x G W->okp (pre++ [x])->n1<=W.heap.size->(∀ b,G b->n1<=b/\b < W.heap.size/\¬ K b)->
    YieldAt Fence.wide 0 P l (encs x) W (zni J pre x K G W)
def zoI(P:Program)(gf:Nat)(lb:Array Value)(encs:α->Array Value)(Sh:α->(Nat->Prop)->World->Prop)(okp done:List α->Prop)(S:Nat->Prop)(W:World):Prop:=
  ∀ (l:Nat) (J:List α->(Nat->Prop)->World->Prop) (K0:Nat->Prop),Held W.heap.size J->Takes P encs l W.heap.size Sh okp J->J [] K0 W->(∀ b,K0 b->b < W.heap.size/\¬ S b)->
    Calls P gf (#[.func (.yield l) #[] #[]]++ lb) W fun e W'=>(∃ v,e=.returned v)/\∃ xs K',done xs/\J xs K' W'
def zhQ(n0:Nat)(rdy:Obj)(S:Nat->Prop)(I:List α->(Nat->Prop)->World->Prop)(pre:List α)(KJ:Nat->Prop)(W:World):Prop:=
  ∃ K,KJ=(fun b=>K b\/b=n0+1\/b=n0)/\I pre K W/\(∀ b,K b->¬ S b/\b≠n0/\b≠n0+1)/\W.heap[n0+1]?=some rdy/\W.heap[n0]?=some (.deferred (some []))
theorem zei{P:Program}{g:Operand}{ps:Array Tmp}{assign body:Code}{Q:Exit->Act->World->Prop}{a:Act}{w:World}{n:Nat}
    {gf:Nat} {lb:Array Value} (hg:a.eval g=.func (.func gf) #[] lb) (eg:∀ args w,(callFunc gf args).run P w=.ok (.enter gf args) w)
    {encs:α->Array Value} {Sh:α->(Nat->Prop)->World->Prop} {okp done:List α->Prop} {S:Nat->Prop} (hgv:∀ W,Below w.heap.size w W->zoI P gf lb encs Sh okp done S W)
    (hps:∀ x,(encs x).size=ps.size) (I:List α->(Nat->Prop)->World->Prop) (K0:Nat->Prop) (hS:∀ b,S b->b < w.heap.size) (hK0:∀ b,K0 b->b < w.heap.size/\¬ S b)
    (hI:Held w.heap.size I) (h0:I [] K0 w)
    (hround:∀ (l:Nat) (pre:List α) (K G:Nat->Prop) (x:α) (W:World),I pre K W->Sh x G W->okp (pre++ [x])->w.heap.size<=l->l < W.heap.size->¬ K l->¬ G l->(∀ b,K b->¬ S b)->(∀ b,G b->w.heap.size<=b/\b < W.heap.size/\¬ K b)->
      assign.wpIn (Fence.wide.inRound l) 0 P (Exit.then (fun a1 W1=>Below W.heap.size W W1/\∀ W2,Moved (fun b=>b=l) W1 W2->
          body.wpIn (Fence.wide.inRound l) 0 P (fun e _ W3=>e=.normal/\∃ K',I (pre++ [x]) K' W3/\(∀ b,K' b->K b\/G b\/(W.heap.size<=b/\b < W3.heap.size))/\Moved (fun b=>K b\/G b\/W.heap.size<=b) W2 W3) a1 W2) (fun _ _ _=>False))
        { tmps:=(ps.zip (encs x)).foldl (fun t (p,v)=>t.setIfInBounds p v) a.tmps,defers:=[] } W)
    (hdone:∀ (D:Nat) (xs:List α) (K:Nat->Prop) (W:World),w.heap.size<=D->done xs->I xs K W->¬ K D->W.heap[D]?=some (.deferred (some []))->Q .normal { a with defers:={ target:=.collected D,args:=#[] } :: a.defers } W) :
    (Code.rangeFunc g ps assign body).wpIn Fence.wide n P Q a w:=by
  refine wpIn_rangeFunc ?_
  intro fn _
  obtain⟨rec,hrec⟩:∃ rec:LoopState->Option Code->Loop,rec=fun st pe=>{ state:=st,pending:=pe,fn,tmps:=a.tmps,params:=ps,assign,body,defers:=w.heap.size }:=⟨_,rfl⟩
  obtain⟨W1,hW1⟩:∃ W1,(w.alloc (.deferred (some []))).alloc (.loop (rec .ready none))=W1:=⟨_,rfl⟩
  have hz1:W1.heap.size=w.heap.size+2:=by rw[<-hW1];simp
  have hL1:W1.heap[w.heap.size+1]?=some (.loop (rec .ready none)):=by
    rw[<-hW1];have:=World.alloc_heap_new (w.alloc (.deferred (some []))) (.loop (rec .ready none));rwa [World.size_alloc]at this
  have hK1:W1.heap[w.heap.size]?=some (.deferred (some [])):=by
    rw[<-hW1];exact(Below.heap_alloc _ _ _ (by simp)).trans (World.alloc_heap_new w _)
  have hb1:Below w.heap.size w W1:=by rw[<-hW1];exact((Below.refl _ w).alloc (Nat.le_refl _) _).alloc (by simp) _
  have hI1:I [] K0 W1:=hI _ _ _ _ h0 (Nat.le_refl _) (Moved.of_below hb1)
  have hstab:Held W1.heap.size (zhQ w.heap.size (.loop (rec .ready none)) S I):=by
    rintro pre KJ A B ⟨K,rfl,hi,hk,hl,hd⟩ hA hm
    have hl1:w.heap.size+1 < A.heap.size:=(Array.getElem?_eq_some_iff.1 hl).1
    refine⟨K,rfl,hI _ _ _ _ hi (by omega) (hm.mono fun i _ h=>⟨by omega,fun h1=>h.2 (.inl h1)⟩),hk,?_,?_⟩
    . rw[hm.block _ hl1 (fun h=>h.2 (.inr (.inl rfl)))];exact hl
    . rw[hm.block _ (by omega) (fun h=>h.2 (.inr (.inr rfl)))];exact hd
  have hstart:zhQ w.heap.size (.loop (rec .ready none)) S I [] (fun b=>K0 b\/b=w.heap.size+1\/b=w.heap.size) W1:=⟨K0,rfl,hI1,fun b hb=>⟨(hK0 b hb).2,by have:=(hK0 b hb).1;omega,by have:=(hK0 b hb).1;omega⟩,hL1,hK1⟩
  have hapart:∀ b,(K0 b\/b=w.heap.size+1\/b=w.heap.size)->b < W1.heap.size/\¬ S b:=by
    rintro b (hb | rfl | rfl)
    . exact⟨by have:=(hK0 b hb).1;omega,(hK0 b hb).2⟩
    . exact⟨by omega,fun h=>by have:=hS _ h;omega⟩
    . exact⟨by omega,fun h=>by have:=hS _ h;omega⟩
  have htakes:Takes P encs (w.heap.size+1) W1.heap.size Sh okp (zhQ w.heap.size (.loop (rec .ready none)) S I):=by
    rintro pre KJ G x W ⟨K,rfl,hi,hk,hl,hd⟩ hsh hok hn1 hG
    have hlt:w.heap.size+1 < W.heap.size:=(Array.getElem?_eq_some_iff.1 hl).1
    have hy:=run_yield (P:=P) (args:=encs x) hl (by rw[hrec];exact hps x)
    rw[hrec]at hy
    refine⟨fn,_,assign,body,hy,roundIn_of_wpIn trivial (wpIn_mono (hround (w.heap.size+1) pre K G x W hi hsh hok (by omega) hlt (fun h=>(hk _ h).2.2 rfl) (fun h=>by have:=(hG _ h).1;omega) (fun b hb=>(hk b hb).1) (fun b hb=>⟨by have:=(hG b hb).1;omega,(hG b hb).2.1,fun h=>(hG b hb).2.2 (.inl h)⟩)) ?_)⟩
    rintro e a1 w1 he
    cases e with
    | normal=>
      obtain⟨hb2,hbody⟩:=he
      have hl2:w1.heap[w.heap.size+1]?=some (.loop (rec .ready none)):=(hb2.block _ hlt).trans hl
      have hz2:=hb2.size
      refine⟨_,run_beginRound hl2 (by rw[hrec]),wpIn_mono (hbody _ (Moved.putObj _ _ _)) ?_⟩
      have hl3:(w1.putObj (w.heap.size+1) (.loop { rec .ready none with state:=.busy })).heap[w.heap.size+1]?=some (.loop { rec .ready none with state:=.busy }):=World.putObj_heap_same (by omega)
      rintro e a3 w3 ⟨rfl,K',hi3,hk3,hm3⟩
      have hz3:w1.heap.size<=w3.heap.size:=by have:=hm3.size;rw[World.putObj_size]at this;exact this
      have hnl:¬ (K (w.heap.size+1)\/G (w.heap.size+1)\/W.heap.size<=w.heap.size+1):=fun h=>h.elim (fun h=>(hk _ h).2.2 rfl) (fun h=>h.elim (fun h=>by have:=(hG _ h).1;omega) (fun h=>by omega))
      have hnd:¬ (K w.heap.size\/G w.heap.size\/W.heap.size<=w.heap.size):=fun h=>h.elim (fun h=>(hk _ h).2.1 rfl) (fun h=>h.elim (fun h=>by have:=(hG _ h).1;omega) (fun h=>by omega))
      have hl4:w3.heap[w.heap.size+1]?=some (.loop { rec .ready none with state:=.busy }):=(hm3.block _ (by rw[World.putObj_size];omega) hnl).trans hl3
      have hd4:w3.heap[w.heap.size]?=some (.deferred (some [])):=
        (hm3.block _ (by rw[World.putObj_size];omega) hnd).trans ((World.putObj_heap_other (by omega)).trans ((hb2.block _ (by omega)).trans hd))
      have hr:=run_endRound (P:=P) none hl4
      rw[hrec]at hr
      have hK':∀ b,K' b->¬ S b/\b≠w.heap.size/\b≠w.heap.size+1:=fun b hb=>by
        rcases hk3 b hb with h | h | h
        . exact hk b h
        . have:=(hG b h).1
          exact⟨fun hs=>by have:=hS b hs;omega,by omega,by omega⟩
        . exact⟨fun hs=>by have:=hS b hs;omega,by omega,by omega⟩
      have hmv:Moved (fun b=>(K b\/b=w.heap.size+1\/b=w.heap.size)\/G b) W w3:=
        ((Moved.of_below hb2).join (Moved.putObj w1 (w.heap.size+1) (.loop { rec .ready none with state:=.busy })) (fun i _ h=>.inl (.inr (.inl h)))).join hm3 (fun i hi h=>h.elim (fun h=>.inl (.inl h)) (fun h=>h.elim .inr (fun h=>by omega)))
      refine⟨_,_,hr,rfl,_,⟨K',rfl,hI _ _ _ _ hi3 (by omega) ((Moved.putObj w3 (w.heap.size+1) _).mono fun i _ h=>⟨by omega,fun h1=>by subst h;exact(hK' _ h1).2.2 rfl⟩),hK',?_,(World.putObj_heap_other (by omega)).trans hd4⟩,?_,?_⟩
      . rw[World.putObj_heap_same (by omega)]
        rw[hrec]
        rfl
      . rintro b (hb | hb | hb)
        . rcases hk3 b hb with h | h | h
          . exact .inl (.inl h)
          . exact .inr (.inl h)
          . exact .inr (.inr ⟨h.1,by rw[World.putObj_size];exact h.2⟩)
        . exact .inl (.inr (.inl hb))
        . exact .inl (.inr (.inr hb))
      . exact hmv.join (Moved.putObj w3 (w.heap.size+1) _) (fun i _ h=>.inl (.inr (.inl h)))
    | exit id=>exact he.elim
    | goto t=>exact he.elim
    | ret=>exact he.elim
    | panic c=>exact he.elim
    | outgrown=>exact he.elim
  have hcall:=hgv W1 hb1 (w.heap.size+1) _ _ hstab htakes hstart hapart
  clear hstab htakes hstart hapart hround
  have hend:CallsIn Fence.wide (n - 1) P gf (#[.func (.yield (w.heap.size+1)) #[] #[]]++ lb) W1 (rangePost Fence.wide n P (w.heap.size+1) Q { a with defers:=[{ target:=.collected w.heap.size,args:=#[] }]++ a.defers }):=by
    refine callsIn_wide.2 (hcall.mono ?_)
    rintro e W2 ⟨⟨v,rfl⟩,xs,KJ,hd,K,rfl,hi,hk,hl,hdd⟩
    have hlt:w.heap.size+1 < W2.heap.size:=(Array.getElem?_eq_some_iff.1 hl).1
    have hel:=run_endLoop (P:=P) hl (by rw[hrec];simp)
    rw[hrec]at hel
    have hfin:=hdone _ xs K _ (Nat.le_refl _) hd (hI _ _ _ _ hi (by omega) ((Moved.putObj W2 (w.heap.size+1) (.loop { rec .ready none with state:=.exhausted })).mono fun i _ h=>⟨by omega,fun h1=>(hk _ h1).2.2 h⟩)) (fun h=>(hk _ h).2.1 rfl) ((World.putObj_heap_other (by omega)).trans hdd)
    rw[hrec]at hfin
    exact⟨none,_,hel,hfin⟩
  have henter:(Instr.enterLoop fn a.tmps ps assign body none).run P w=.ok (w.heap.size+1,[{ target:=.collected w.heap.size,args:=#[] }]) W1:=by
    rw[<-hW1,hrec];exact run_enterLoop_outer _ _ _ _ _
  have hres:(resolve a.eval (rangeCall g (w.heap.size+1)) 0).run P W1=.ok { target:=.fn (.func gf) lb,args:=#[.func (.yield (w.heap.size+1)) #[] #[]] } W1:=by
    simp only[resolve,hg]
    simp [go_sem]
  have hinv:(invoke (.fn (.func gf) lb) #[.func (.yield (w.heap.size+1)) #[] #[]]).run P W1=.ok (.enter gf (#[.func (.yield (w.heap.size+1)) #[] #[]]++ lb)) W1:=by
    simp [invoke,go_sem,eg]
  exact⟨w.heap.size+1,_,W1,_,W1,gf,_,W1,henter,hres,fun _ _=>trivial,hinv,(fun hd=>by cases hd),hend⟩
end
theorem zej{P:Program}{fn:Func}{R:Ending->World->Prop}{a:Act}{W:World}{D n:Nat}(hd:a.defers=[{ target:=.collected D,args:=#[] }])(hK:W.heap[D]?=some (.deferred (some [])))
    (h:LeavesIn Fence.wide n P fn a.tmps R [] .returning (W.putObj D (.deferred none))):LeavesInM Fence.wide n P fn a.tmps R a.defers .returning W:=by
  rw[hd]
  exact⟨by simp,.inl ⟨_,_,rfl,run_takeDeferred hK,h⟩⟩
end Go.Proofs.YtddgabjhligeeaaGreat.mk
