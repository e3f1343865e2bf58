import Derived.Test.YtddgabjhligeeaaGreatJnE
import Derived.Maps.AppendAt
import Derived.Orders
namespace Go.Proofs.YtddgabjhligeeaaGreat.mk
open Go.RowKit
theorem zeF{P:Program}(w:World)(ty:TypeId)(t:TypeId)(base:Nat)(e:TypeId)(i:TypeInfo)(z:Value)(size bytes:Nat)(ht:P.underlying t=some (.slice e))(hi:P.info? e=some i)(hz:i.zero=some z)
    (hsize:i.size=size) (hby:i.bytes=bytes) (hzs:z.cells.size=size) (hsz:0 < size)
    (v:Value) (n:Nat) (xs:List Value) (hown:w.ownsRow base e size v n xs)
    (B:Nat) (A:Option Addr) (m c:Nat) (news:List Value) (hA:A=none->c=0) (hl:news.length=m * size) (hr:Lies w B A news) (h1:∀ u∈news,u.oneCell'=true)
    (h63:n+m<=maxLen) (hbytes:(n+m) * bytes<=140737488355328) (hbase:base<=w.heap.size) :
    ∃ v' w',(Builtin.append_ #[t,t] ty #[v,.slice A m c]).run P w=.ok v' w'/\w'.ownsRow base e size v' (n+m) (xs++ news)/\w.grownBy w' v.ownBlock/\(v'.ownBlock=v.ownBlock\/v'.ownBlock=some w.heap.size):=by
  rcases A with _ | ad
  . have hn:news=[]:=by
      rcases news with _ | ⟨u,r⟩
      . rfl
      . obtain⟨ad,e,_⟩:=hr 0 u rfl
        cases e
    subst hn
    have hm:m=0:=by
      have:=hl
      simp only[List.length_nil]at this
      rcases Nat.eq_zero_or_pos m with h0 | h0
      . exact h0
      . have:=Nat.mul_pos h0 hsz;omega
    subst hm
    obtain rfl:=hA rfl
    exact⟨v,w,run_append_owned_none (P:=P) (w:=w) base t ty e i size ht hi v n xs hown,by simpa using hown,World.grownBy.refl _ _,.inl rfl⟩
  . obtain⟨v',w',hr,h2,h3,h4,h5⟩:=run_append_own_at (P:=P) w base t ty e i z size bytes ht hi hz hsize hby hzs hsz v n xs hown ad m c news hl (fun j u hu=>by
      obtain⟨ad',e,_,hc⟩:=hr j u hu
      injection e with e
      subst e
      exact hc) h1 h63 hbytes hbase
    exact⟨v',w',hr,h2,h3,h5⟩
theorem zbH{P:Program}(w:World){ops:Array Oper}{rest:List Oper}{o:Oper}{a:Act}{Q:Exit->Act->World->Prop}(hgd:o.guard=none)(s x:Operand)(t:TypeId)
    (ho:o.op=.call { callee:=.builtin .append,args:=#[s,x],argTypes:=#[t,t] })
    (base:Nat) (e:TypeId) (i:TypeInfo) (z:Value) (size bytes:Nat) (ht:P.underlying t=some (.slice e)) (hi:P.info? e=some i) (hz:i.zero=some z)
    (hsize:i.size=size) (hby:i.bytes=bytes) (hzs:z.cells.size=size) (hsz:0 < size)
    (v:Value) (n:Nat) (xs:List Value) (hs:a.eval s=v) (hown:w.ownsRow base e size v n xs)
    (B:Nat) (A:Option Addr) (m c:Nat) (news:List Value) (hx:a.eval x=.slice A m c) (hA:A=none->c=0) (hl:news.length=m * size) (hr:Lies w B A news) (h1:∀ u∈news,u.oneCell'=true)
    (h63:n+m<=maxLen) (hbytes:(n+m) * bytes<=140737488355328) (hbase:base<=w.heap.size)
    (h:∀ v' w',w'.ownsRow base e size v' (n+m) (xs++ news)->w.grownBy w' v.ownBlock->(v'.ownBlock=v.ownBlock\/v'.ownBlock=some w.heap.size)->wpList P ops Q rest (a.put o.dst v') w') :
    wpList P ops Q (o::rest) a w:=by
  refine wpList_plain hgd fun K hK=>?_
  obtain⟨v',w',hr,h2,h3,h5⟩:=zeF (P:=P) w o.type t base e i z size bytes ht hi hz hsize hby hzs hsz v n xs hown B A m c news hA hl hr h1 h63 hbytes hbase
  unfold Oper.wp execOp
  simp only[ho,resolve,invoke,builtin,Sem.run_bind,Sem.run_pure,Result.andThen_ok,List.map_toArray,List.map_cons,List.map_nil,hs,hx,hr]
  exact hK _ _ (h v' w' h2 h3 h5)
structure Moved (S:Nat->Prop) (w w':World):Prop where
  os:w'.os=w.os
  tape:w'.tape=w.tape
  output:w'.output=w.output
  size:w.heap.size<=w'.heap.size
  block:∀ k,k < w.heap.size->¬ S k->w'.heap[k]?=w.heap[k]?
theorem Moved.refl(S:Nat->Prop)(w:World):Moved S w w:=⟨rfl,rfl,rfl,Nat.le_refl _,fun _ _ _=>rfl⟩
theorem Moved.trans{S:Nat->Prop}{a b c:World}(h:Moved S a b)(k:Moved S b c):Moved S a c:=
  ⟨k.os.trans h.os,k.tape.trans h.tape,k.output.trans h.output,Nat.le_trans h.size k.size,fun i hi hs=>(k.block i (Nat.lt_of_lt_of_le hi h.size) hs).trans (h.block i hi hs)⟩
theorem Moved.alloc{S:Nat->Prop}{a w:World}(h:Moved S a w)(o:Obj):Moved S a (w.alloc o):=
  h.trans ⟨rfl,rfl,rfl,by simp,fun k hk _=>Below.heap_alloc _ _ _ hk⟩
theorem Moved.drew{S:Nat->Prop}{a w:World}(h:Moved S a w):Moved S a w.drew:=⟨h.os,h.tape,h.output,h.size,h.block⟩
theorem Moved.setCell{S:Nat->Prop}{a w:World}(h:Moved S a w){p:Addr}(hp:S p.block)(u:Value):Moved S a (w.setCell p u):=
  h.trans ⟨rfl,rfl,rfl,by simp [World.setCell],fun k _ hs=>Below.heap_setCell _ _ _ _ (fun e=>hs (e ▸ hp))⟩
theorem Moved.grown{S:Nat->Prop}{a w w':World}{row:Option Nat}(h:Moved S a w)(hg:w.grownBy w' row)(hr:∀ k,row=some k->a.heap.size<=k):Moved S a w':=
  ⟨hg.os.trans h.os,hg.tape.trans h.tape,hg.output.trans h.output,Nat.le_trans h.size hg.size,fun k hk hs=>(hg.block k (Nat.lt_of_lt_of_le hk h.size) (fun e=>by have:=hr k e.symm;omega)).trans (h.block k hk hs)⟩
theorem Moved.below{S:Nat->Prop}{B:Nat}{w w':World}(h:Moved S w w')(hB:B<=w.heap.size)(hs:∀ k,k < B->¬ S k):Below B w w':=
  ⟨h.os,h.tape,h.output,h.size,fun k hk=>h.block k (by omega) (hs k hk)⟩
theorem Moved.of_below{S:Nat->Prop}{w w':World}(h:Below w.heap.size w w'):Moved S w w':=⟨h.os,h.tape,h.output,h.size,fun k hk _=>h.block k hk⟩
theorem Moved.own{S:Nat->Prop}{w w':World}{base:Nat}{e:TypeId}{size n:Nat}{v:Value}{xs:List Value}(h:Moved S w w')(ho:w.ownsRow base e size v n xs)(hs:∀ g,v.ownBlock=some g->¬ S g):w'.ownsRow base e size v n xs:=
  zax ho fun g hg=>h.block g (ho.lt g hg).2 (hs g hg)
theorem Moved.whole{S:Nat->Prop}{w w':World}{g:Nat}{t:TypeId}{cs:Array Value}(h:Moved S w w')(hw:Whole w g t cs)(hs:¬ S g):Whole w' g t cs:=hw.same (h.block g hw.lt hs)
theorem zdV{md:Region.Mode}{ops:Array Oper}{listed:Array Bool}{i:Nat}(h:i∈Region.ready md ops listed):i < ops.size/\listed.getD i true=false/\((ops[i]?).map (·.after.all fun e=>!Region.binds md e || listed.getD e.on false)).getD false=true:=by
  unfold Region.ready at h
  rw[List.mem_filter,List.mem_range]at h
  simpa using h
theorem zgg{l:List Bool}{i:Nat}(h:l[i]?=some false):((l.set i true).filter (fun b=>!b)).length+1=(l.filter (fun b=>!b)).length:=by
  induction l generalizing i with
  | nil=>simp at h
  | cons b l ih=>
    cases i with
    | zero=>simp at h;subst h;simp
    | succ i=>
      have:=ih (i:=i) (by simpa using h)
      rw[List.set_cons_succ]
      cases b<;>simp<;>omega
theorem zeS{listed:Array Bool}{i n:Nat}(hs:listed.size=n)(hi:i < n)(h:listed.getD i true=false):listed.toList[i]?=some false:=by
  subst hs
  simp [Array.getD,hi]at h
  simp [hi,h]
theorem zke{P:Program}{ops:Array Oper}{Q:Exit->Act->World->Prop}{md:Region.Mode}(I:Array Bool->Act->World->Prop)
    (hend:∀ listed a w,I listed a w->Region.ready md ops listed=[]->Q .normal a w)
    (hstep:∀ listed a w i,I listed a w->i∈Region.ready md ops listed->wpOp P ops Q i (I (listed.setIfInBounds i true)) a w) :
    ∀ (fuel:Nat) (listed:Array Bool) (a:Act) (w:World),listed.size=ops.size->(listed.toList.filter (fun b=>!b)).length<=fuel->I listed a w->wpAny P md ops Q fuel listed a w:=by
  intro fuel
  induction fuel with
  | zero=>
    intro listed a w hs hc hI
    have hr:Region.ready md ops listed=[]:=by
      cases hq:Region.ready md ops listed with
      | nil=>rfl
      | cons x xs=>
        obtain⟨h1,h2,_⟩:=zdV (i:=x) (by rw[hq];simp:x∈Region.ready md ops listed)
        have:=zgg (zeS hs h1 h2)
        omega
    exact⟨hr,hend listed a w hI hr⟩
  | succ fuel ih=>
    intro listed a w hs hc hI
    refine⟨hend listed a w hI,fun i hi=>?_⟩
    obtain⟨h1,h2,_⟩:=zdV hi
    have h3:=zgg (zeS hs h1 h2)
    refine wpOp_mono (fun a' w' h=>ih _ a' w' (by simpa using hs) ?_ h) (hstep listed a w i hI hi)
    rw[Array.toList_setIfInBounds]
    omega
theorem zkf{md:Region.Mode}{ops:Array Oper}{listed:Array Bool}(hs:listed.size=ops.size)(hac:((List.range ops.size).all fun i=>((ops[i]?).map fun o=>o.after.all fun e=>decide (e.on < i)).getD true)=true)(h:Region.ready md ops listed=[]) :
    ∀ i,i < ops.size->listed.getD i false=true:=by
  intro i
  induction i using Nat.strongRecOn with
  | _ i ih=>
    intro hi
    cases hx:listed.getD i false with
    | true=>rfl
    | false=>
      exfalso
      have hm:i∈Region.ready md ops listed:=by
        unfold Region.ready
        rw[List.mem_filter,List.mem_range]
        refine⟨hi,?_⟩
        have h1:=List.all_eq_true.1 hac i (List.mem_range.2 hi)
        have h2:listed.getD i true=false:=by simp [Array.getD,hs,hi]at hx ⊢;exact hx
        rw[h2]
        simp only[Array.getElem?_eq_getElem hi,Option.map_some,Option.getD_some,Bool.not_false,Bool.true_and]at h1 ⊢
        rw[Array.all_eq_true]at h1 ⊢
        intro j hj
        have:=h1 j hj
        simp only[decide_eq_true_eq]at this
        rw[ih _ this (by omega)]
        simp
      rw[h]at hm
      cases hm
theorem zA{P:Program}(w:World){ops:Array Oper}{o:Oper}{a:Act}{K:Act->World->Prop}{Q:Exit->Act->World->Prop}{E:Prop}(hgd:o.guard=none)(s x:Operand)(t:TypeId)
    (ho:o.op=.call { callee:=.builtin .append,args:=#[s,x],argTypes:=#[t,t] })
    (base:Nat) (e:TypeId) (i:TypeInfo) (z:Value) (size bytes:Nat) (ht:P.underlying t=some (.slice e)) (hi:P.info? e=some i) (hz:i.zero=some z)
    (hsize:i.size=size) (hby:i.bytes=bytes) (hzs:z.cells.size=size) (hsz:0 < size)
    (v:Value) (n:Nat) (xs:List Value) (hs:a.eval s=v) (hown:w.ownsRow base e size v n xs)
    (B:Nat) (A:Option Addr) (m c:Nat) (news:List Value) (hx:a.eval x=.slice A m c) (hA:A=none->c=0) (hl:news.length=m * size) (hr:Lies w B A news) (h1:∀ u∈news,u.oneCell'=true)
    (h63:n+m<=maxLen) (hbytes:(n+m) * bytes<=140737488355328) (hbase:base<=w.heap.size)
    (h:∀ v' w',w'.ownsRow base e size v' (n+m) (xs++ news)->w.grownBy w' v.ownBlock->(v'.ownBlock=v.ownBlock\/v'.ownBlock=some w.heap.size)->K (a.put o.dst v') w') :
    if Region.wanted o (yielded ops a.tmps)=true then Oper.wp P o a w K Q else E:=by
  have hw:Region.wanted o (yielded ops a.tmps)=true:=by simp [Region.wanted,hgd]
  rw[if_pos hw]
  rcases A with _ | ad
  . have hn:news=[]:=by
      rcases news with _ | ⟨u,r⟩
      . rfl
      . obtain⟨ad,e,_⟩:=hr 0 u rfl
        cases e
    subst hn
    have hm:m=0:=by
      have:=hl
      simp only[List.length_nil]at this
      rcases Nat.eq_zero_or_pos m with h0 | h0
      . exact h0
      . have:=Nat.mul_pos h0 hsz;omega
    subst hm
    obtain rfl:=hA rfl
    have hrun:=run_append_owned_none (P:=P) (w:=w) base t o.type e i size ht hi v n xs hown
    unfold Oper.wp
    simp [execOp,ho,resolve,invoke,builtin,hs,hx,hrun,Result.andThen]
    exact h v w (by simpa using hown) (World.grownBy.refl _ _) (.inl rfl)
  . obtain⟨v',w',hr,h2,h3,h4,h5⟩:=run_append_own_at (P:=P) w base t o.type e i z size bytes ht hi hz hsize hby hzs hsz v n xs hown ad m c news hl (fun j u hu=>by
      obtain⟨ad',e,_,hc⟩:=hr j u hu
      injection e with e
      subst e
      exact hc) h1 h63 hbytes hbase
    unfold Oper.wp execOp
    simp only[ho,resolve,invoke,builtin,Sem.run_bind,Sem.run_pure,Result.andThen_ok,List.map_toArray,List.map_cons,List.map_nil,hs,hx,hr]
    exact h v' w' h2 h3 h5
theorem zbT{P:Program}(w:World){ops:Array Oper}{o:Oper}{a:Act}{K:Act->World->Prop}{Q:Exit->Act->World->Prop}{E:Prop}(hgd:o.guard=none)(f x:Operand)(tys:Array TypeId)
    (ho:o.op=.call { callee:=.value f,args:=#[x],argTypes:=tys }) (F:Nat) (hf:a.eval f=.func (.func F) #[] #[]) (hE:∀ args w',(callFunc F args).run P w'=.ok (.enter F args) w') (v:Value) (hx:a.eval x=v)
    {R:Ending->World->Prop} (hc:Calls P F #[v] w R) (h:∀ e w',R e w'->∃ u,e=.returned u/\K (a.put o.dst u) w') :
    if Region.wanted o (yielded ops a.tmps)=true then Oper.wp P o a w K Q else E:=by
  have hw:Region.wanted o (yielded ops a.tmps)=true:=by simp [Region.wanted,hgd]
  rw[if_pos hw]
  have hrun:(execOp a.eval o).run P w=.ok (.enter F #[v]) w:=by
    simp [execOp,ho,resolve,invoke,hf,hx,hE,Deferred.ofValue]
  unfold Oper.wp
  rw[hrun]
  refine Calls.mono hc fun e w' hr=>?_
  obtain⟨u,rfl,hk⟩:=h e w' hr
  exact hk
end Go.Proofs.YtddgabjhligeeaaGreat.mk
