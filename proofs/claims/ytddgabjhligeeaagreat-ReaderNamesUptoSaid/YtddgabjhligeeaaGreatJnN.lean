import Derived.Test.YtddgabjhligeeaaGreatJnK
import Derived.Test.YtddgabjhligeeaaGreatJnE
set_option maxHeartbeats 400000
set_option maxRecDepth 100000
namespace Go.Proofs.YtddgabjhligeeaaGreat.mk
open Go.RowKit
def zmE(s:ByteArray)(rs:List (Int × Int))(n B:Nat)(w0:World)(r l i:Value)(wr:World):Prop:=
  ∃ k:Nat,k<=n/\i=.int .i64 k/\l=.int .i64 ((s.size - (pre s.size (rs.take k)).length:Nat):Int)/\
    wr.ownsRow B 53 2 r (comp (pre s.size (rs.take k))).length (zc (comp (pre s.size (rs.take k))))/\Below B w0 wr
theorem zjc{n:Nat}{rs:List (Int × Int)}{k:Nat}{l o:Int}(h:rs[k]?=some (l,o))(h0:l < 1\/n - (pre n (rs.take k)).length=0):pre n (rs.take (k+1))=pre n (rs.take k):=by
  rw[zw h,zbp]
  have:min l.toNat (n - (pre n (rs.take k)).length)=0:=by omega
  simp only[this,List.replicate_zero,List.append_nil]
theorem zeU{n:Nat}{rs:List (Int × Int)}{k:Nat}{l o m:Int}(h:rs[k]?=some (l,o))(hm:m=min l (n - (pre n (rs.take k)).length:Nat)):pre n (rs.take (k+1))=pre n (rs.take k)++ List.replicate m.toNat (zaa o):=by
  rw[zw h,zbp]
  have:min l.toNat (n - (pre n (rs.take k)).length)=m.toNat:=by omega
  simp only[this]
theorem JoinPost.below{base:Nat}{v:Value}{rs:List (Int × Int)}{w:World}{e:Ending}{w':World}{B:Nat}{w0:World}(h:JoinPost base v rs w e w')(hv:∀ k,v.ownBlock=some k->B<=k)(hb:Below B w0 w)(hB:B<=w.heap.size) :
    ∃ v',e=.returned v'/\w'.ownsRow base 53 2 v' rs.length (zc rs)/\Below B w0 w':=by
  obtain⟨v',he,h1,h2,_⟩:=h
  exact⟨v',he,h1,hb.grown h2 hB hv⟩
theorem zcO(s:ByteArray)(A:Option Addr)(n c:Nat)(rs:List (Int × Int))(w:World)(hl:Lies w w.heap.size A (zc rs))(hn:rs.length=n)(hs:s.size<=4294967296)(hn2:n<=4294967296) :
    Calls Tryz.prog 27 #[.agg #[.string s,.slice A n c]] w fun e w'=>∃ v,e=.returned v/\w'.ownsRow w.heap.size 53 2 v (zan s.size rs).length (zc (zan s.size rs))/\Below w.heap.size w w':=by
  have HN:=Lib.hid hn
  clear hn
  go_enter Tryz.func27,Tryz.ntmps27
  go_wp2_with fail
  go_loopw [3,4,14] (zmE s rs n (w.heap.size+1) (w.alloc (.cells #[.string s,.slice A n c] 24))) (fun _ _ i _=>n - (intOf i).toNat)
  case atStart=>exact⟨0,Nat.zero_le _,rfl,by simp [pre],World.ownsRow_nil _ _ _ _,Below.refl _ _⟩
  case round=>
    obtain⟨k,hk,rfl,rfl,hown,hbl⟩:=hrel
    have hpl:=zbc s.size (rs.take k)
    have hsz:=hbl.size
    simp only[World.size_alloc]at hsz
    by_cases hlt:k < n
    . obtain⟨ad,l,o,rfl,hb,hc1,hc2,HR⟩:=(((hl.alloc (Nat.le_refl _) (.cells #[.string s,.slice A n c] 24)).mono (Nat.le_succ _)).below hbl).run (k:=k) (by rw[HN.out];exact hlt)
      have HL:=Lib.hid hl
      clear hl
      generalize hq:s.size - (pre s.size (rs.take k)).length=q at *
      have HQ:=Lib.hid hq
      have hqs:q<=s.size:=by omega
      clear hq
      by_cases hm:l < 1\/q=0
      . have HS:=Lib.hid (zjc HR.out (by rw[HQ.out];exact hm))
        rcases hm with hm | hm
        . go_wp2_with fail
          go_roundw
          case rel=>exact⟨k+1,by omega,by go_num,by rw[HS.out,HQ.out],by rw[HS.out];exact hown.alloc _,hbl.alloc (by omega) _⟩
          case measure=>simp [intOf];omega
        . have hm1:1<=l\/l < 1:=by omega
          rcases hm1 with hm1 | hm1
          all_goals
            obtain⟨q',rfl⟩:∃ q':Nat,q'=q:=⟨_,rfl⟩
            have hm2:q'<=0:=by omega
            clear hm
            go_wp2_with fail
            go_roundw
            case rel=>exact⟨k+1,by omega,by go_num,by rw[HS.out,HQ.out],by rw[HS.out];exact hown.alloc _,hbl.alloc (by omega) _⟩
            case measure=>simp [intOf];omega
      . have hl1:1<=l:=by omega
        have hq1:1<=q:=by omega
        clear hm
        by_cases hlq:l<=q
        . have HS:=Lib.hid (zeU (m:=l) HR.out (by rw[HQ.out];omega))
          go_wp2_with fail
          refine(zcE _ _).mono ?_
          rintro e w' ⟨rfl,rfl⟩
          go_wp2_with fail
          refine(zbJ (w.heap.size+1) u3 (pre s.size (rs.take k)) l _ _ (hown.alloc _) (by simp;omega) (by omega) (by omega)).mono ?_
          rintro e w1 hj
          obtain⟨v',rfl,hown',hbl'⟩:=hj.below (fun k hk=>(hown.lt k hk).1) (hbl.alloc (by omega) _) (by simp;omega)
          clear hj
          go_wp2
          go_roundw
          case rel=>exact⟨k+1,by omega,by go_num,by rw[HS.out];simp;have:=HQ.out;omega,by rw[HS.out];exact hown',hbl'⟩
          case measure=>simp [intOf];omega
        . have hlq':q < l:=by omega
          clear hlq
          have HS:=Lib.hid (zeU (m:=q) HR.out (by rw[HQ.out];omega))
          go_wp2_with fail
          refine(zcE _ _).mono ?_
          rintro e w' ⟨rfl,rfl⟩
          go_wp2_with fail
          refine(zbJ (w.heap.size+1) u3 (pre s.size (rs.take k)) q _ _ (hown.alloc _) (by simp;omega) (by omega) (by omega)).mono ?_
          rintro e w1 hj
          obtain⟨v',rfl,hown',hbl'⟩:=hj.below (fun k hk=>(hown.lt k hk).1) (hbl.alloc (by omega) _) (by simp;omega)
          clear hj
          go_wp2
          go_roundw
          case rel=>exact⟨k+1,by omega,by go_num,by rw[HS.out];simp;have:=HQ.out;omega,by rw[HS.out];exact hown',hbl'⟩
          case measure=>simp [intOf];omega
    . have HT:=Lib.hid (show rs.take k=rs from List.take_of_length_le (by have:=HN.out;omega))
      rw[HT.out]at hown hpl ⊢
      have HJ:Hid (comp (pre s.size rs++ List.replicate (((s.size - (pre s.size rs).length:Nat):Int)).toNat 65536)=zan s.size rs):=by
        unfold zan zF;rw[Int.toNat_natCast];exact rfl
      generalize hq:s.size - (pre s.size rs).length=q at *
      have hqs:q<=s.size:=by omega
      have HQ:=Lib.hid hq
      clear hq
      go_wp2_with fail
      refine(zbJ (w.heap.size+1) u3 (pre s.size rs) q _ _ hown (by omega) (by omega) (by omega)).mono ?_
      rintro e w1 hj
      obtain⟨v',rfl,hown',hbl'⟩:=hj.below (fun k hk=>(hown.lt k hk).1) hbl (by omega)
      clear hj
      rw[HJ.out]at hown'
      go_wp2
      go_ret
      exact⟨v',rfl,zI hown' (Nat.le_succ _),((Below.refl _ _).alloc (Nat.le_refl _) _).trans (hbl'.mono (Nat.le_succ _))⟩
end Go.Proofs.YtddgabjhligeeaaGreat.mk
