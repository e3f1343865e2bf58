import Derived.Test.YtddgabjhligeeaaGreatJnAC
import Derived.Laws.EntriesVeiled
set_option maxHeartbeats 1000000
set_option maxRecDepth 100000
namespace Go.Proofs.YtddgabjhligeeaaGreat.mk
open Go.RowKit Go.Maps
theorem KeptPost.tells{S:Nat->Prop}{I:World->Prop}{qs:List PA}{w w0 w':World}{e:Ending}(h:KeptPost S I qs w0 e w')(hb:Below w.heap.size w w0)(hS:∀ g,S g->w.heap.size<=g):zgA qs w e w':=by
  obtain⟨A,c,ts,h1,h2,h3,h4,h5,_⟩:=h
  exact⟨A,c,ts,h1,zI h2 hb.size,h3.mono hb.size,h4,hb.trans (h5.below hb.size (fun k hk hs=>by have:=hS k hs;omega))⟩
theorem ziK(A:Option Addr)(n c:Nat)(ts:List AT)(w:World)(hl:Lies w w.heap.size A (zq ts))(hok:AllOk w w.heap.size ts)(hn:ts.length=n)(hn2:n<=4294967295) :
    Calls Tryz.prog 131 #[.slice A n c] w (zgA (zag (ts.map AT.ch)) w):=by
  have HN:=Lib.hid hn
  have HL:=Lib.hid hl
  have HOK:=Lib.hid hok
  clear hn hl hok
  go_enter Tryz.func131,Tryz.ntmps131
  go_wp2_with fail
  refine(zkY w).mono ?_
  rintro e w1 ⟨rfl,y1,hM1,hb1⟩
  have hz1:=y1.lt
  have hne:=zgH hM1 y1
  go_wp2_with fail
  refine(zm5 178 #[.pointer (some ⟨w.heap.size+1,0,none⟩)] (·=w.heap.size) (fun k w'=>(w'.cell? ⟨w.heap.size+1,0,none⟩=some (.map (some w.heap.size))/\w1.heap.size<=w'.heap.size)/\MapF w' w.heap.size k (cntN (ts.map AT.ch) k)) (zdL (ts.map AT.ch)) w.heap.size A n c ts w1 (HL.out.below hb1) (HOK.out.keep (fun _ hp=>hb1.cell hp)) HN.out (by omega) (fun _ _=>rfl) (by omega) (fun g h=>by omega) (fun _ w' w'' h hb=>⟨⟨(hb.cell hz1).trans h.1.1,Nat.le_trans h.1.2 hb.size⟩,h.2.same (hb.block _ (by omega))⟩) ⟨⟨y1.at_ 0,Nat.le_refl _⟩,hM1⟩ ?_).mono ?_
  . intro k t w' ht hI hto hz
    have hkn:k < n:=by rw[<-HN.out];exact(List.getElem?_eq_some_iff.1 ht).1
    have hcl:=zoF (ts.map AT.ch) k t.nm.bs
    refine(zjt t (w.heap.size+1) w.heap.size k (cntN (ts.map AT.ch) k) w' hI.1.1 (by omega) hI.2 ⟨hcl.1,by omega⟩ (by omega) hto.1.2.2.2).mono ?_
    rintro e w'' ⟨rfl,hM,hmv⟩
    have hct:=zkX (ziz ht)
    have hcx:=zkW (ziz ht)
    rw[AT.nmB]at hct hcx
    refine⟨by rw[hct],⟨⟨(hmv.cell (World.block_lt_of_cell? w' _ hI.1.1) (by show ¬ (w.heap.size+1=w.heap.size);omega)).trans hI.1.1,Nat.le_trans hz hmv.size⟩,by rw[hcx];exact hM⟩,hmv⟩
  . intro e w3 h
    obtain⟨A3,c3,us,rfl,h2,h3,h4,h5⟩:=h.tells hb1 (fun g h=>by omega)
    have H2:=Lib.hid h2
    have H3:=Lib.hid h3
    clear h2 h3 h
    go_wp2
    go_ret
    exact⟨A3,c3,us,rfl,H2.out,H3.out,h4,h5⟩
theorem zhM(ts:List AT)(k:Nat)(t:AT)(hk:k < ts.length) :
    ((((zq ts).set (k * 4) (.string t.nm.s)).set (k * 4+1) (.slice t.nm.A t.nm.n t.nm.c)).set (k * 4+2) (.string t.vl.s)).set (k * 4+3) (.slice t.vl.A t.vl.n t.vl.c)=zq (ts.set k t):=by
  have e:ts=ts.take k++ ts[k]::ts.drop (k+1):=by rw[List.getElem_cons_drop,List.take_append_drop]
  have hl:(zq (ts.take k)).length=k * 4:=by rw[zcC,List.length_take];congr 1;omega
  generalize ts[k]=x at e
  have e2:ts.set k t=ts.take k++ t::ts.drop (k+1):=by
    conv=>lhs;rw[e]
    rw[List.set_append_right _ _ (by rw[List.length_take];omega),List.length_take]
    have:k - min k ts.length=0:=by omega
    rw[this]
    rfl
  rw[e2]
  conv=>lhs;rw[e]
  generalize ts.take k=p at *
  generalize ts.drop (k+1)=q at *
  have h1:∀ y:AT,zq (p++ y::q)=zq p++ (zb7 y++ zq q):=fun y=>by simp [zq]
  rw[h1,h1]
  rw[List.set_append_right _ _ (by omega),hl,Nat.sub_self]
  rw[List.set_append_right _ _ (by omega),hl,show k * 4+1 - k * 4=1 by omega]
  rw[List.set_append_right _ _ (by omega),hl,show k * 4+2 - k * 4=2 by omega]
  rw[List.set_append_right _ _ (by omega),hl,show k * 4+3 - k * 4=3 by omega]
  rfl
theorem AllOwn.stored{w:World}{base base' n cap g j:Nat}{xs:List Value}{ts:List AT}(h:AllOwn w base ts)(ho:w.ownsRow base' 93 4 (.slice (some ⟨g,0,none⟩) n cap) n xs)(u:Value):AllOwn (w.setCell ⟨g,j,none⟩ u) base ts:=
  fun t ht=>(h t ht).grown ho (by decide) (ho.stored j u).2
theorem zju{w:World}{base n cap g k:Nat}{ts:List AT}{t:AT}(ho:w.ownsRow base 93 4 (.slice (some ⟨g,0,none⟩) n cap) n (zq ts))(hA:AllOwn w base ts)(ht:OwnA w base t)(hk:k < ts.length)(hn:ts.length=n) :
    let w':=(((w.setCell ⟨g,k * 4,none⟩ (.string t.nm.s)).setCell ⟨g,k * 4+1,none⟩ (.slice t.nm.A t.nm.n t.nm.c)).setCell ⟨g,k * 4+2,none⟩ (.string t.vl.s)).setCell ⟨g,k * 4+3,none⟩ (.slice t.vl.A t.vl.n t.vl.c)
    w'.ownsRow base 93 4 (.slice (some ⟨g,0,none⟩) (ts.set k t).length cap) (ts.set k t).length (zq (ts.set k t))/\AllOwn w' base (ts.set k t)/\Below base w w':=by
  intro w'
  have o1:=(ho.stored (k * 4) (.string t.nm.s)).1
  have o2:=(o1.stored (k * 4+1) (.slice t.nm.A t.nm.n t.nm.c)).1
  have o3:=(o2.stored (k * 4+2) (.string t.vl.s)).1
  have o4:=(o3.stored (k * 4+3) (.slice t.vl.A t.vl.n t.vl.c)).1
  have hS:AllOwn w base (ts++ [t]):=hA.snoc ht
  have hS4:=(((hS.stored (j:=k * 4) ho (.string t.nm.s)).stored (j:=k * 4+1) o1 (.slice t.nm.A t.nm.n t.nm.c)).stored (j:=k * 4+2) o2 (.string t.vl.s)).stored (j:=k * 4+3) o3 (.slice t.vl.A t.vl.n t.vl.c)
  have hg:base<=g:=(ho.lt g rfl).1
  refine⟨?_,fun x hx=>hS4 x ?_,?_⟩
  . rw[List.length_set,hn,<-zhM ts k t hk]
    exact o4
  . rcases List.mem_or_eq_of_mem_set hx with h | h
    . exact List.mem_append_left _ h
    . rw[h];exact List.mem_append_right _ (by simp)
  . exact((((Below.refl base w).setCell (p:=⟨g,k * 4,none⟩) hg _).setCell (p:=⟨g,k * 4+1,none⟩) hg _).setCell (p:=⟨g,k * 4+2,none⟩) hg _).setCell (p:=⟨g,k * 4+3,none⟩) hg _
end Go.Proofs.YtddgabjhligeeaaGreat.mk
namespace Go.Proofs.YtddgabjhligeeaaGreat.mk
open Go.RowKit
theorem zm8(s:ByteArray):zjo s.data.toList=(s.toList == [98,114] || (s.toList == [104,114] || s.toList == [105,109,103])):=by rw[ByteArray.toList_eq];rfl
theorem zeh(s:ByteArray)(w:World) :
    Calls Tryz.prog 142 #[.string s] w fun e w'=>e=.returned (.bool (zjo s.data.toList))/\w=w':=by
  have HR:=Lib.hid (zm8 s)
  cases h1:s.toList == [98,114] with
  | true=>
    rw[h1]at HR
    go_enter Tryz.func142,Tryz.ntmps142
    go_wp2
    go_ret
    exact⟨za3 (by rw[HR.out];rfl),rfl⟩
  | false=>
    cases h2:s.toList == [104,114] with
    | true=>
      rw[h1,h2]at HR
      go_enter Tryz.func142,Tryz.ntmps142
      go_wp2
      go_ret
      exact⟨za3 (by rw[HR.out];rfl),rfl⟩
    | false=>
      rw[h1,h2]at HR
      go_enter Tryz.func142,Tryz.ntmps142
      go_wp2
      go_ret
      exact⟨za3 (by rw[HR.out];rfl),rfl⟩
theorem zm9(s:ByteArray)(o:Int)(A:Option Addr)(c:Nat):LT.told ⟨s,A,(comp (List.replicate s.size (zaa o))).length,c,comp (List.replicate s.size (zaa o))⟩:=by
  have hl:(s.data.toList.map fun b=>(b,zaa o)).map (·.2)=List.replicate s.size (zaa o):=by
    rw[List.map_map,List.eq_replicate_iff]
    refine⟨by rw[List.length_map,Array.length_toList];rfl,fun x hx=>?_⟩
    obtain⟨b,_,rfl⟩:=List.mem_map.1 hx
    rfl
  have hi:InR (s.data.toList.map fun b=>(b,zaa o)):=by
    intro x hx
    rw[hl]at hx
    rw[(List.mem_replicate.1 hx).2]
    exact⟨zfo _,zfp _⟩
  have hf:(zi (s.data.toList.map fun b=>(b,zaa o))).data.toList=s.data.toList:=by
    show(((s.data.toList.map fun b=>(b,zaa o)).map (·.1)).toArray).toList=_
    rw[List.map_map]
    show((s.data.toList.map fun b=>b).toArray).toList=_
    rw[List.map_id']
  have h:=zcI hi
  rw[hf,hl]at h
  show comp (List.replicate s.size (zaa o))=comp ((chars s.data.toList (comp (List.replicate s.size (zaa o)))).map (·.2))
  rw[h,hl]
theorem za0{W:World}{g:Nat}{t:TypeId}{cs:Array Value}{l:List Value}(h:Whole W g t cs)(hl:cs.toList=l):Lies W W.heap.size (some ⟨g,0,none⟩) l:=by
  intro j u hu
  refine⟨_,rfl,h.lt,?_⟩
  subst hl
  have h1:=h.at_ j
  rw[<-Array.getElem?_toList,hu]at h1
  have e:(⟨g,0,none⟩:Addr).add j=⟨g,j,none⟩:=by
    cases j with
    | zero=>rfl
    | succ j=>simp [Addr.add]
  rw[e];exact h1
def UpTo(n:Nat)(w0:World)(i:Value)(wr:World):Prop:=∃ k:Nat,k<=n/\i=.int .i64 (k:Int)/\Below w0.heap.size w0 wr
end Go.Proofs.YtddgabjhligeeaaGreat.mk
