import Derived.Test.YtddgabjhligeeaaGreatJoinAG
import Derived.Test.YtddgabjhligeeaaGreatJoinY
set_option maxHeartbeats 400000
namespace Go.Proofs.YtddgabjhligeeaaGreat.mk
open Go.RowKit
theorem zrT(s:ByteArray):zbF s.data.toList=(s.toList == [98,114] || (s.toList == [104,114] || s.toList == [105,109,103])):=by rw[ByteArray.toList_eq];rfl
theorem ztJ(s:ByteArray):rawH s.data.toList=(s.toList == [115,99,114,105,112,116] || s.toList == [115,116,121,108,101]):=by rw[ByteArray.toList_eq];rfl
theorem zgq(s:ByteArray)(w:World) :
    Calls Tryz.prog 126 #[.string s] w fun e w'=>e=.returned (.bool (zbF s.data.toList))/\w=w':=by
  have HR:=Lib.hid (zrT s)
  cases h1:s.toList == [98,114] with
  | true=>
    rw[h1]at HR
    go_enter Tryz.func126,Tryz.ntmps126
    go_wp2
    go_ret
    exact⟨zB (by rw[HR.out];rfl),rfl⟩
  | false=>
    cases h2:s.toList == [104,114] with
    | true=>
      rw[h1,h2]at HR
      go_enter Tryz.func126,Tryz.ntmps126
      go_wp2
      go_ret
      exact⟨zB (by rw[HR.out];rfl),rfl⟩
    | false=>
      rw[h1,h2]at HR
      go_enter Tryz.func126,Tryz.ntmps126
      go_wp2
      go_ret
      exact⟨zB (by rw[HR.out];rfl),rfl⟩
theorem zhu(s:ByteArray)(w:World) :
    Calls Tryz.prog 127 #[.string s] w fun e w'=>e=.returned (.bool (rawH s.data.toList))/\w=w':=by
  have HR:=Lib.hid (ztJ s)
  cases h1:s.toList == [115,99,114,105,112,116] with
  | true=>
    rw[h1]at HR
    go_enter Tryz.func127,Tryz.ntmps127
    go_wp2
    go_ret
    exact⟨zB (by rw[HR.out];rfl),rfl⟩
  | false=>
    rw[h1]at HR
    go_enter Tryz.func127,Tryz.ntmps127
    go_wp2
    go_ret
    exact⟨zB (by rw[HR.out];rfl),rfl⟩
def elH(t:TT):Bool:=!(t.tag.s.toList.isEmpty)
theorem zeO(t:TT):elH t=!decide (t.tag.ch=[]):=by
  unfold elH
  have h1:t.tag.ch.length=t.tag.s.size:=LT.ch_length _
  have h2:t.tag.s.data.toList.length=t.tag.s.size:=by rw[Array.length_toList];rfl
  rw[ByteArray.toList_eq]
  cases h:t.tag.ch with
  | nil=>
    rw[h]at h1
    have:t.tag.s.data.toList=[]:=List.eq_nil_of_length_eq_zero (by rw[h2,<-h1];rfl)
    rw[this]
    rfl
  | cons x l=>
    rw[h]at h1
    cases h3:t.tag.s.data.toList with
    | nil=>rw[h3]at h2;rw[<-h1]at h2;simp at h2
    | cons y m=>simp
theorem zaZ(t:TT)(w:World) :
    Calls Tryz.prog 82 #[.agg #[.string t.tag.s,.slice t.tag.A t.tag.n t.tag.c,.slice t.A t.n t.c,.slice t.K t.kn t.kc,.string t.text.s,.slice t.text.A t.text.n t.text.c]] w fun e w'=>e=.returned (.bool (elH t))/\Below w.heap.size w w':=by
  have hb:Below w.heap.size w (w.alloc (.cells #[.string t.tag.s,.slice t.tag.A t.tag.n t.tag.c,.slice t.A t.n t.c,.slice t.K t.kn t.kc,.string t.text.s,.slice t.text.A t.text.n t.text.c] 48)):=(Below.refl _ _).alloc (Nat.le_refl _) _
  have HR:Hid (elH t=!(t.tag.s.toList.isEmpty)):=rfl
  go_enter Tryz.func82,Tryz.ntmps82
  go_wp2
  go_ret
  exact⟨zB HR.out.symm,hb⟩
theorem zrU(s:ByteArray):(chars s.data.toList (comp (List.replicate s.size (zaq 0))))=s.data.toList.map fun b=>(b,(0:Int)):=by
  have hl:s.data.toList.length=s.size:=by rw[Array.length_toList];rfl
  have hn:zaq 0=0:=by decide
  rw[hn]
  have hc:s.data.toList.map (fun b=>((b,(0:Int)):UInt8 × Int))=s.data.toList.zip (List.replicate s.size 0):=by
    rw[<-hl]
    generalize s.data.toList=l
    induction l with
    | nil=>rfl
    | cons b l ih=>rw[List.map_cons,ih,List.length_cons,List.replicate_succ,List.zip_cons_cons]
  have hi:InR (s.data.toList.map fun b=>((b,(0:Int)):UInt8 × Int)):=by
    intro o ho
    simp only[List.map_map,List.mem_map,Function.comp]at ho
    obtain⟨b,_,rfl⟩:=ho
    decide
  have h:=zcJ hi
  unfold zh at h
  simp only[List.map_map]at h
  have e1:(s.data.toList.map ((fun(x:UInt8 × Int)=>x.1) ∘ fun b=>(b,(0:Int))))=s.data.toList:=by
    rw[show((fun(x:UInt8 × Int)=>x.1) ∘ fun b=>(b,(0:Int)))=id from rfl,List.map_id]
  have e2:(s.data.toList.map ((fun(x:UInt8 × Int)=>x.2) ∘ fun b=>(b,(0:Int))))=List.replicate s.size 0:=by
    rw[show((fun(x:UInt8 × Int)=>x.2) ∘ fun(b:UInt8)=>(b,(0:Int)))=fun _=>0 from rfl,List.map_const',hl]
  rw[e1,e2]at h
  exact h
theorem zgP(s:ByteArray)(w:World)(hs:s.size<=4294967296) :
    Calls Tryz.prog 130 #[.string s] w fun e w'=>∃ t:LT,e=.returned (.agg #[.string s,.slice t.A t.n t.c])/\Hid (t.s=s/\t.ch=(s.data.toList.map fun b=>(b,(0:Int)))/\OwnL w' w.heap.size t)/\Below w.heap.size w w':=by
  have hlen:(comp (List.replicate s.size (zaq 0))).length<=s.size:=by
    have:=zE (List.replicate s.size (zaq 0))
    rw[List.length_replicate]at this
    exact this
  have HN:=Lib.hid hlen
  have HS:=Lib.hid hs
  clear hlen hs
  go_enter Tryz.func130,Tryz.ntmps130
  go_wp2_with fail
  generalize hw3:w.alloc (.cells #[.string ⟨#[]⟩,.slice none 0 0] 24)=w3
  have y3:Whole w3 w.heap.size 24 #[.string ⟨#[]⟩,.slice none 0 0]:=by rw[<-hw3];exact Whole.made _ _ _
  have hb3:Below w.heap.size w w3:=by rw[<-hw3];exact(Below.refl _ _).alloc (Nat.le_refl _) _
  clear hw3
  refine(zlj s 0 w3 HS.out).mono ?_
  generalize hrs:comp (List.replicate s.size (zaq 0))=rs at *
  have HRS:=Lib.hid hrs
  clear hrs
  rintro e w4 ⟨v4,rfl,ho4,hb4⟩
  obtain⟨A4,c4,rfl,_,_,_⟩:=zg ho4
  have y4:=y3.below hb4 y3.lt
  have f0:=y4.free 0
  have f1:=y4.free 1
  have d0:w4.cell? ⟨w.heap.size,0,none⟩=some (.string ⟨#[]⟩):=y4.at_ 0
  have d1:w4.cell? ⟨w.heap.size,1,none⟩=some (.slice none 0 0):=y4.at_ 1
  have hz4:=hb3.size
  have HO:=Lib.hid ho4
  clear ho4
  go_wp2
  refine bodyPost_ret (v:=.agg #[.string s,.slice A4 rs.length c4]) ?_ rfl ?_
  . simp [results,Tryz.results130,go_sem,d0,d1]
  . refine⟨⟨s,A4,rs.length,c4,rs⟩,rfl,⟨rfl,?_,rfl,⟨by have:=HN.out;have:=HS.out;show rs.length<=_;omega,by have h:=zlM s 0 A4 c4;rw[HRS.out]at h;exact h⟩,HS.out,?_⟩,?_⟩
    . show chars s.data.toList rs=_
      rw[<-HRS.out]
      exact zrU s
    . have hne:∀ v,(Value.slice A4 rs.length c4).ownBlock≠some v\/w.heap.size < v:=by
        intro v
        rcases h:(Value.slice A4 rs.length c4).ownBlock with _ | g
        . exact .inl (by simp)
        . by_cases e:g=v
          . subst e
            exact .inr (by have:=(HO.out.lt g h).1;have:=y3.lt;omega)
          . exact .inl (by intro e2;injection e2 with e2;exact e e2)
      have hn2:(Value.slice A4 rs.length c4).ownBlock≠some w.heap.size:=by
        rcases hne w.heap.size with h | h
        . exact h
        . omega
      exact zQ (zQ (zD HO.out hz4) ⟨w.heap.size,0,none⟩ hn2 _) ⟨w.heap.size,1,none⟩ hn2 _
    . exact((zb hb3 (Nat.le_refl _) hb4).setCell (p:=⟨w.heap.size,0,none⟩) (Nat.le_refl _) _).setCell (p:=⟨w.heap.size,1,none⟩) (Nat.le_refl _) _
end Go.Proofs.YtddgabjhligeeaaGreat.mk
