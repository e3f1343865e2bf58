import Derived.Test.YtddgabjhligeeaaGreatJnAO
import Derived.Test.YtddgabjhligeeaaGreatJnAA
namespace Go.Proofs.YtddgabjhligeeaaGreat.mk
open Go.RowKit
def zfV(l:Ch)(w:World)(e:Ending)(w':World):Prop:=
  ∃ t:LT,e=.returned (.agg #[.string t.s,.slice t.A t.n t.c])/\Hid (t.ch=l/\OwnL w' w.heap.size t)/\Below w.heap.size w w'
theorem zcY{l:Ch}{w w':World}{e:Ending}(hi:InR l)(hn:l.length<=4294967296)(h:zdJ (zi l) (comp (l.map (·.2))) w e w'):zfV l w e w':=by
  obtain⟨v,rfl,ho,hb⟩:=h
  obtain⟨A,c,rfl,_,_,_⟩:=zh ho
  exact⟨zjj l A c,rfl,⟨zcr hi A c,rfl,⟨Nat.le_trans (zhB l) hn,by show comp (l.map (·.2))=comp ((zjj l A c).ch.map (·.2));rw[zcr hi]⟩,by show(zi l).size<=_;rw[zG];exact hn,ho⟩,hb⟩
theorem zdF(us:List LT):zY us=(us.map LT.ch).flatten:=by unfold zY;rw[List.flatMap_def]
theorem InR.cat13(us:List LT):InR (zY us):=by
  induction us with
  | nil=>intro o ho;cases ho
  | cons u us ih=>exact(u.ch_in).append ih
theorem zg6(us:List LT)(A:Option Addr)(n c:Nat)(w:World)(hl:Lies w w.heap.size A (zu us))(hn:us.length=n)(hn2:n<=4294967296)(hok:∀ u∈us,u.ok w w.heap.size)(hz:(zY us).length<=4294967296) :
    Calls Tryz.prog 54 #[.slice A n c] w (zfV (zY us) w):=(ziG us A n c w hl hn hn2 hok hz).mono fun _ _ h=>zcY (InR.cat13 us) hz h
theorem zg7(a:LT)(w:World)(ha:a.ok w w.heap.size) :
    Calls Tryz.prog 146 #[.agg #[.string a.s,.slice a.A a.n a.c]] w (zfV (lowL a.ch) w):=by
  have h:=zgG a.s a.A a.n a.c a.rs w ha.1 ha.2.1 ha.2.2.2 ha.2.2.1
  have e1:(lowL a.ch).map (·.1)=a.s.data.toList.map lowB:=by
    unfold lowL
    rw[List.map_map]
    show a.ch.map (lowB ∘ (·.1))=_
    rw[<-List.map_map,LT.ch_fst];rfl
  have e2:comp ((lowL a.ch).map (·.2))=zan a.s.size a.rs:=by
    unfold lowL
    rw[List.map_map]
    show comp (a.ch.map (·.2))=_
    rw[LT.ch_snd];rfl
  refine h.mono fun e w' h=>zcY (l:=lowL a.ch) ?_ (by rw[zek,LT.ch_length];exact ha.2.2.2) ?_
  . intro o ho
    unfold lowL at ho
    rw[List.map_map]at ho
    exact a.ch_in o ho
  . unfold zi
    rw[e1,e2]
    exact h
theorem zg8(a:LT)(w:World)(ha:a.ok w w.heap.size) :
    Calls Tryz.prog 114 #[.agg #[.string a.s,.slice a.A a.n a.c]] w (zfV (decE a.ch) w):=
  (zfS a.s a.A a.n a.c a.rs w ha.1 ha.2.1 ha.2.2.2 ha.2.2.1).mono fun _ _ h=>zcY a.ch_in.decE (Nat.le_trans (zdO _) (by rw[LT.ch_length];exact ha.2.2.2)) h
theorem zlS(a:LT)(w:World)(ha:a.ok w w.heap.size) :
    Calls Tryz.prog 38 #[.agg #[.string a.s,.slice a.A a.n a.c]] w fun e w'=>∃ (A:Option Addr) (c:Nat),e=.returned (.agg #[.string (zi a.ch),.slice A (comp (a.ch.map (·.2))).length c])/\w'.ownsRow w.heap.size 53 2 (.slice A (comp (a.ch.map (·.2))).length c) (comp (a.ch.map (·.2))).length (zc (comp (a.ch.map (·.2))))/\Below w.heap.size w w':=by
  refine(zbU a.s a.A a.n a.c a.rs w ha.1 ha.2.1 ha.2.2.2 ha.2.2.1).mono ?_
  rintro e w' ⟨v,rfl,ho,hb⟩
  have e1:zi a.ch=a.s:=by unfold zi;rw[LT.ch_fst];rfl
  have e2:comp (a.ch.map (·.2))=zan a.s.size a.rs:=by rw[LT.ch_snd];rfl
  rw[<-e2]at ho
  obtain⟨A,c,rfl,_,_,_⟩:=zh ho
  exact⟨A,c,by rw[e1],ho,hb⟩
end Go.Proofs.YtddgabjhligeeaaGreat.mk
