import Derived.Test.YtddgabjhligeeaaGreatJnAJ
import Derived.Test.YtddgabjhligeeaaGreatJnAL
import Derived.Test.YtddgabjhligeeaaGreatJnI
set_option maxHeartbeats 4000000
set_option maxRecDepth 100000
namespace Go.Proofs.YtddgabjhligeeaaGreat.mk
open Go.RowKit
theorem zad{P:Program}{ops:Array Oper}{Q:Exit->Act->World->Prop}{S:World->Prop}{Z:Nat->Bool}{id:Nat}{a:Act}{w:World}(hm:P.follows .mixedOrders=true)
    (h:zbI P .any ops Q S Z ops.size (Array.replicate ops.size false) a w.drew):(Code.region id ops true).wp P Q a w:=wp_region_any hm (zay _ _ _ _ h)
def zl(L:Ch):List (Int × Int):=comp (L.map (·.2))
structure SrcM (w:World) (g:Nat) (L:Ch) (i m:Nat) (v4 v5:Value):Prop where
  cells:∃ A n c k,Whole w g 64 #[.string (zi L),.int .i64 (i:Int),.slice A n c,.int .i64 (zB (zl L) k:Int),v4,v5]/\Lies w g A (zc ((zl L).drop k))/\((zl L).drop k).length=n/\n<=c/\(A=none->c=0)/\zB (zl L) k<=m/\k<=(zl L).length
  le:i<=L.length
  inr:InR L
  len:L.length<=268435456
abbrev Sv (g:Nat):World->World->Prop:=Moved (fun b=>b=g)
theorem SrcM.lt{w:World}{g:Nat}{L:Ch}{i m:Nat}{v4 v5:Value}(h:SrcM w g L i m v4 v5):g < w.heap.size:=by
  obtain⟨A,n,c,k,hW,_⟩:=h.cells
  exact hW.lt
theorem SrcM.next{w w':World}{g:Nat}{L:Ch}{i m:Nat}{v4 v5:Value}(h:SrcM w g L i m v4 v5)(hb:Below w.heap.size w w'):SrcM w' g L i m v4 v5:=by
  have hlt:=h.lt
  obtain⟨A,n,c,k,hW,hL,r⟩:=h.cells
  exact⟨⟨A,n,c,k,hW.below hb hlt,hL.below (hb.mono (Nat.le_of_lt hlt)),r⟩,h.le,h.inr,h.len⟩
theorem SrcM.drewN{w:World}{g:Nat}{L:Ch}{i m:Nat}{v4 v5:Value}(h:SrcM w g L i m v4 v5)(n:Nat):SrcM (w.drewN n) g L i m v4 v5:=h.next ((Below.refl _ _).drewN n)
theorem SrcM.mono{w:World}{g:Nat}{L:Ch}{i m m':Nat}{v4 v5:Value}(h:SrcM w g L i m v4 v5)(hm:m<=m'):SrcM w g L i m' v4 v5:=by
  obtain⟨A,n,c,k,hW,hL,h1,h2,h3,h4,h5⟩:=h.cells
  exact⟨⟨A,n,c,k,hW,hL,h1,h2,h3,Nat.le_trans h4 hm,h5⟩,h.le,h.inr,h.len⟩
theorem Sv.below{g:Nat}{w w':World}(h:Sv g w w')(hg:g<=w.heap.size):Below g w w':=Moved.below h hg fun k hk e=>by omega
theorem zX(L:Ch):(zi L).data.toList=L.map (·.1):=by unfold zi;simp
theorem zcZ(L:Ch)(i:Nat):(zi L).extract i (zi L).size=zi (L.drop i):=by
  rw[zbs,zX,zG]
  unfold zi
  rw[List.map_drop,List.take_of_length_le (by rw[List.length_map];exact Nat.le_refl _)]
theorem zh2{g:Nat}{L:Ch}{i m:Nat}{v4 v5:Value}(w:World)(h:SrcM w g L i m v4 v5) :
    Calls Tryz.prog 34 #[.pointer (some ⟨g,0,none⟩)] w fun e w'=>e=.returned (.bool (decide (i < L.length)))/\∃ n,w'=w.drewN n:=by
  obtain⟨A,n,c,k,hW,hL,_⟩:=h.cells
  have hs:(zi L).size=L.length:=zG L
  have HV:Hid (decide (i < (zi L).size)=decide (i < L.length)):=by show _=_;rw[hs]
  have c0:w.cell? ⟨g,0,none⟩=some (.string (zi L)):=hW.at_ 0
  have c1:w.cell? ⟨g,1,none⟩=some (.int .i64 (i:Int)):=hW.at_ 1
  generalize zi L=s at *
  clear hW hL h hs
  go_enter Tryz.func34,Tryz.ntmps34
  go_wp2_with fail
  go_quiet (fail)
  go_wp2
  go_ret
  exact⟨by rw[<-HV.out];rfl,_,rfl⟩
theorem zb2{g:Nat}{L:Ch}{i m:Nat}{v4 v5:Value}(w:World)(h:SrcM w g L i m v4 v5) :
    Calls Tryz.prog 68 #[.pointer (some ⟨g,0,none⟩)] w fun e w'=>e=.returned (.string (zi (L.drop i)))/\∃ n,w'=w.drewN n:=by
  obtain⟨A,n,c,k,hW,hL,_⟩:=h.cells
  have hs:(zi L).size=L.length:=zG L
  have hi:=h.le
  have HV:=Lib.hid (zcZ L i)
  have c0:w.cell? ⟨g,0,none⟩=some (.string (zi L)):=hW.at_ 0
  have c1:w.cell? ⟨g,1,none⟩=some (.int .i64 (i:Int)):=hW.at_ 1
  generalize zi L=s at *
  have h0:(0:Int)<=(i:Int):=Int.natCast_nonneg _
  have h1:(i:Int)<=(s.size:Int):=by omega
  clear hW hL h hs hi
  go_enter Tryz.func68,Tryz.ntmps68
  go_wp2_with fail
  go_quiet (fail)
  go_wp2
  go_ret
  exact⟨by rw[<-HV.out];rfl,_,rfl⟩
theorem zg9{g:Nat}{L:Ch}{i m:Nat}{v4 v5:Value}(p:ByteArray)(w:World)(h:SrcM w g L i m v4 v5) :
    Calls Tryz.prog 65 #[.pointer (some ⟨g,0,none⟩),.string p] w fun e w'=>e=.returned (.bool (isA p.data.toList (L.drop i)))/\∃ n,w'=w.drewN n:=by
  have hp:p.data.toList.length=p.size:=by rw[Array.length_toList];rfl
  have HV:Hid (((zi (L.drop i)).data.toList.take p.size == p.data.toList)=isA p.data.toList (L.drop i)):=by
    show _=_
    unfold isA
    rw[zX,hp]
  have HR:=Lib.hid (zb2 w h)
  generalize zi (L.drop i)=t at *
  clear h hp
  go_enter Tryz.func65,Tryz.ntmps65
  go_wp2_with fail
  refine HR.out.mono ?_
  rintro e w1 ⟨rfl,n1,rfl⟩
  go_wp2_with fail
  refine(zaR t p _).mono ?_
  rintro e w2 ⟨rfl,rfl⟩
  rw[HV.out]
  go_wp2
  go_ret
  exact⟨rfl,_,rfl⟩
theorem SrcM.pass{w:World}{g:Nat}{L:Ch}{i m:Nat}{v4 v5:Value}(h:SrcM w g L i m v4 v5)(j:Nat)(hj:j<=L.length):SrcM (w.setCell ⟨g,1,none⟩ (.int .i64 (j:Int))) g L j m v4 v5:=by
  obtain⟨A,n,c,k,hW,hL,r⟩:=h.cells
  exact⟨⟨A,n,c,k,hW.put 1 _,hL.below ((Below.refl g w).setCell (Nat.le_refl _) _),r⟩,hj,h.inr,h.len⟩
theorem zcL{g:Nat}{L:Ch}{i m:Nat}{v4 v5:Value}(n:Nat)(w:World)(h:SrcM w g L i m v4 v5)(hn:n<=268435456) :
    Calls Tryz.prog 66 #[.pointer (some ⟨g,0,none⟩),.int .i64 (n:Int)] w fun e w'=>e=.returned (.tuple #[])/\SrcM w' g L (min (i+n) L.length) m v4 v5/\Sv g w w':=by
  have hlt:=h.lt
  obtain⟨A,rn,c,k,hW,hL,_⟩:=h.cells
  have hs:(zi L).size=L.length:=zG L
  have hi:=h.le
  have hl:=h.len
  have c0:w.drew.cell? ⟨g,0,none⟩=some (.string (zi L)):=hW.drew.at_ 0
  have c1:w.drew.cell? ⟨g,1,none⟩=some (.int .i64 (i:Int)):=hW.drew.at_ 1
  have f1:w.drew.frozen? ⟨g,1,none⟩=false:=hW.drew.free 1
  have hw:IntKind.i64.wrap ((i:Int)+(n:Int))=(i:Int)+(n:Int):=IntWalk.i64_in _ (by omega)
  have HV:Hid (min ((i:Int)+(n:Int)) ((zi L).size:Int)=((min (i+n) L.length:Nat):Int)):=by show _=_;rw[hs];omega
  have HP:Hid (SrcM (w.drew.setCell ⟨g,1,none⟩ (.int .i64 ((min (i+n) L.length:Nat):Int))) g L (min (i+n) L.length) m v4 v5):=(h.next (Below.drew (Below.refl _ _))).pass _ (Nat.min_le_right _ _)
  have HM:Hid (Sv g w (w.drew.setCell ⟨g,1,none⟩ (.int .i64 ((min (i+n) L.length:Nat):Int)))):=Moved.setCell (S:=fun b=>b=g) (Moved.drew (Moved.refl _ _)) (p:=⟨g,1,none⟩) rfl _
  generalize ((min (i+n) L.length:Nat):Int)=z at *
  generalize min (i+n) L.length=y at *
  generalize zi L=s at *
  have hS:w.drew.cell? ⟨g,0,none⟩=some (.string s)/\w.drew.cell? ⟨g,1,none⟩=some (.int .i64 (i:Int)):=⟨c0,c1⟩
  clear hW hL h hs hi hl hn c0
  go_enter Tryz.func66,Tryz.ntmps66
  refine zad (S:=(fun V=>V.cell? ⟨g,0,none⟩=some (.string s)/\V.cell? ⟨g,1,none⟩=some (.int .i64 (i:Int)))) (Z:=(fun i=>decide (13<=i))) (by kernel_rfl) ?_
  refine' zb (i:=0) ?i1 (by kernel_rfl) (by kernel_rfl) (by kernel_rfl) (by kernel_rfl) ?q1 ?y1 hS ?r1
  case i1=>simp only[zlD,zlE];rfl
  case q1=>exact fun _ _ _ h=>h
  case y1=>
    refine Or.inl ⟨by rfl,?_⟩
    intro wq hq
    try dsimp only at hq
    try obtain⟨hq0,hq1⟩:=hq
    go_simp
    try with_reducible rfl
  try simp only[Act.put,zlA,zlB,zlC]
  refine' zb (i:=1) ?i2 (by kernel_rfl) (by kernel_rfl) (by kernel_rfl) (by kernel_rfl) ?q2 ?y2 hS ?r2
  case i2=>simp only[zlD,zlF,zlE];rfl
  case q2=>exact fun _ _ _ h=>h
  case y2=>
    refine Or.inl ⟨by rfl,?_⟩
    intro wq hq
    try dsimp only at hq
    try obtain⟨hq0,hq1⟩:=hq
    go_simp
    try with_reducible rfl
  try simp only[Act.put,zlA,zlB,zlC]
  refine' zb (i:=2) ?i3 (by kernel_rfl) (by kernel_rfl) (by kernel_rfl) (by kernel_rfl) ?q3 ?y3 hS ?r3
  case i3=>simp only[zlD,zlF,zlE];rfl
  case q3=>exact fun _ _ _ h=>h
  case y3=>
    refine Or.inl ⟨by rfl,?_⟩
    intro wq hq
    try dsimp only at hq
    try obtain⟨hq0,hq1⟩:=hq
    go_simp
    try with_reducible rfl
  try simp only[Act.put,zlA,zlB,zlC]
  refine' zb (i:=3) ?i4 (by kernel_rfl) (by kernel_rfl) (by kernel_rfl) (by kernel_rfl) ?q4 ?y4 hS ?r4
  case i4=>simp only[zlD,zlF,zlE];rfl
  case q4=>exact fun _ _ _ h=>h
  case y4=>
    refine Or.inl ⟨by rfl,?_⟩
    intro wq hq
    try dsimp only at hq
    try obtain⟨hq0,hq1⟩:=hq
    go_simp
    try with_reducible rfl
  try simp only[Act.put,zlA,zlB,zlC]
  refine' zb (i:=4) ?i5 (by kernel_rfl) (by kernel_rfl) (by kernel_rfl) (by kernel_rfl) ?q5 ?y5 hS ?r5
  case i5=>simp only[zlD,zlF,zlE];rfl
  case q5=>exact fun _ _ _ h=>h
  case y5=>
    refine Or.inl ⟨by rfl,?_⟩
    intro wq hq
    try dsimp only at hq
    try obtain⟨hq0,hq1⟩:=hq
    go_simp
    try with_reducible rfl
  try simp only[Act.put,zlA,zlB,zlC]
  refine' zb (i:=5) ?i6 (by kernel_rfl) (by kernel_rfl) (by kernel_rfl) (by kernel_rfl) ?q6 ?y6 hS ?r6
  case i6=>simp only[zlD,zlF,zlE];rfl
  case q6=>exact fun _ _ _ h=>h
  case y6=>
    refine Or.inl ⟨by rfl,?_⟩
    intro wq hq
    try dsimp only at hq
    try obtain⟨hq0,hq1⟩:=hq
    go_simp
    try with_reducible rfl
  try simp only[Act.put,zlA,zlB,zlC]
  refine' zb (i:=6) ?i7 (by kernel_rfl) (by kernel_rfl) (by kernel_rfl) (by kernel_rfl) ?q7 ?y7 hS ?r7
  case i7=>simp only[zlD,zlF,zlE];rfl
  case q7=>exact fun _ _ _ h=>h
  case y7=>
    refine Or.inl ⟨by rfl,?_⟩
    intro wq hq
    try dsimp only at hq
    try obtain⟨hq0,hq1⟩:=hq
    go_simp
    try with_reducible rfl
  try simp only[Act.put,zlA,zlB,zlC]
  refine' zb (i:=7) ?i8 (by kernel_rfl) (by kernel_rfl) (by kernel_rfl) (by kernel_rfl) ?q8 ?y8 hS ?r8
  case i8=>simp only[zlD,zlF,zlE];rfl
  case q8=>exact fun _ _ _ h=>h
  case y8=>
    refine Or.inl ⟨by rfl,?_⟩
    intro wq hq
    try dsimp only at hq
    try obtain⟨hq0,hq1⟩:=hq
    go_simp
    try with_reducible rfl
  try simp only[Act.put,zlA,zlB,zlC]
  refine' zb (i:=8) ?i9 (by kernel_rfl) (by kernel_rfl) (by kernel_rfl) (by kernel_rfl) ?q9 ?y9 hS ?r9
  case i9=>simp only[zlD,zlF,zlE];rfl
  case q9=>exact fun _ _ _ h=>h
  case y9=>
    refine Or.inl ⟨by rfl,?_⟩
    intro wq hq
    try dsimp only at hq
    try obtain⟨hq0,hq1⟩:=hq
    go_simp
    try with_reducible rfl
  try simp only[Act.put,zlA,zlB,zlC]
  refine' zb (i:=9) ?i10 (by kernel_rfl) (by kernel_rfl) (by kernel_rfl) (by kernel_rfl) ?q10 ?y10 hS ?r10
  case i10=>simp only[zlD,zlF,zlE];rfl
  case q10=>exact fun _ _ _ h=>h
  case y10=>
    refine Or.inl ⟨by rfl,?_⟩
    intro wq hq
    try dsimp only at hq
    try obtain⟨hq0,hq1⟩:=hq
    go_simp
    try with_reducible rfl
  try simp only[Act.put,zlA,zlB,zlC]
  refine' zb (i:=10) ?i11 (by kernel_rfl) (by kernel_rfl) (by kernel_rfl) (by kernel_rfl) ?q11 ?y11 hS ?r11
  case i11=>simp only[zlD,zlF,zlE];rfl
  case q11=>exact fun _ _ _ h=>h
  case y11=>
    refine Or.inl ⟨by rfl,?_⟩
    intro wq hq
    try dsimp only at hq
    try obtain⟨hq0,hq1⟩:=hq
    go_simp
    try with_reducible rfl
  try simp only[Act.put,zlA,zlB,zlC]
  refine' zb (i:=11) ?i12 (by kernel_rfl) (by kernel_rfl) (by kernel_rfl) (by kernel_rfl) ?q12 ?y12 hS ?r12
  case i12=>simp only[zlD,zlF,zlE];rfl
  case q12=>exact fun _ _ _ h=>h
  case y12=>
    refine Or.inl ⟨by rfl,?_⟩
    intro wq hq
    try dsimp only at hq
    try obtain⟨hq0,hq1⟩:=hq
    go_simp
    try with_reducible rfl
  try simp only[Act.put,zlA,zlB,zlC]
  refine' zb (i:=12) ?i13 (by kernel_rfl) (by kernel_rfl) (by kernel_rfl) (by kernel_rfl) ?q13 ?y13 hS ?r13
  case i13=>simp only[zlD,zlF,zlE];rfl
  case q13=>exact fun _ _ _ h=>h
  case y13=>
    refine Or.inl ⟨by rfl,?_⟩
    intro wq hq
    try dsimp only at hq
    try obtain⟨hq0,hq1⟩:=hq
    go_simp
    try with_reducible rfl
  try simp only[Act.put,zlA,zlB,zlC]
  refine za (rs:=[13]) (by kernel_rfl) (by simp) ?_
  refine' ReadyL.cons ?o14 (fun K hK=>?s14) ReadyL.nil
  case o14=>simp only[zlD,zlF,zlE];rfl
  go_simp
  refine hK.out _ _ (.inl (by decide)) ?_
  clear hK K
  try simp only[Act.put,zlA,zlB,zlC]
  refine za (rs:=[14]) (by kernel_rfl) (by simp) ?_
  refine' ReadyL.cons ?o15 (fun K hK=>?s15) ReadyL.nil
  case o15=>simp only[zlD,zlF,zlE];rfl
  go_simp
  refine hK.out _ _ (.inl (by decide)) ?_
  clear hK K
  try simp only[Act.put,zlA,zlB,zlC]
  refine za (rs:=[15]) (by kernel_rfl) (by simp) ?_
  refine' ReadyL.cons ?o16 (fun K hK=>?s16) ReadyL.nil
  case o16=>simp only[zlD,zlF,zlE];rfl
  go_simp
  refine hK.out _ _ (.inl (by decide)) ?_
  clear hK K
  try simp only[Act.put,zlA,zlB,zlC]
  refine zg (by kernel_rfl) ?_ _
  rw[HV.out]
  go_wp2_with fail
  go_end0
  exact⟨rfl,HP.out,HM.out⟩
theorem znC(f:UInt8->Bool)(l:Ch):zaQ (l.map (·.1)) f=(l.takeWhile fun c=>f c.1).length:=by
  unfold zaQ
  rw[List.takeWhile_map,List.length_map]
  rfl
theorem zlT(f:UInt8->Bool)(l:Ch):l.drop (l.takeWhile fun c=>f c.1).length=zo f l:=by
  have h:=congrArg (List.drop (l.takeWhile fun c=>f c.1).length) (List.takeWhile_append_dropWhile (p:=fun c:UInt8 × Int=>f c.1) (l:=l))
  rw[List.drop_left]at h
  exact h.symm
theorem zh3{g:Nat}{L:Ch}{i m:Nat}{v4 v5:Value}(p:ByteArray)(w:World)(h:SrcM w g L i m v4 v5)(hp:p.size<=4294967296) :
    Calls Tryz.prog 145 #[.pointer (some ⟨g,0,none⟩),.string p] w fun e w'=>e=.returned (.tuple #[])/\∃ j,i<=j/\L.drop j=zo (fun b=>p.data.toList.contains b) (L.drop i)/\SrcM w' g L j m v4 v5/\Sv g w w':=by
  have H:=Lib.hid h
  have HR:=Lib.hid (zb2 w h)
  have hi:=h.le
  have hl:=h.len
  have hts:(zi (L.drop i)).size<=4294967296:=by rw[zG,List.length_drop];omega
  have hn:zaQ (zi (L.drop i)).data.toList (isIn p.data.toList)=((L.drop i).takeWhile fun c=>p.data.toList.contains c.1).length:=by rw[zX,znC];rfl
  have hle:=(List.takeWhile_sublist (fun c:UInt8 × Int=>p.data.toList.contains c.1) (l:=L.drop i)).length_le
  rw[List.length_drop]at hle
  have HD:Hid (L.drop (i+((L.drop i).takeWhile fun c=>p.data.toList.contains c.1).length)=zo (fun b=>p.data.toList.contains b) (L.drop i)):=by
    show _=_
    rw[<-List.drop_drop,zlT]
  have HN:=Lib.hid hn
  generalize ((L.drop i).takeWhile fun c=>p.data.toList.contains c.1).length=q at *
  have hq:min (i+q) L.length=i+q:=by omega
  have HQ:=Lib.hid hq
  generalize zi (L.drop i)=t at *
  clear h hn hq
  go_enter Tryz.func145,Tryz.ntmps145
  go_wp2_with fail
  refine HR.out.mono ?_
  rintro e w1 ⟨rfl,n1,rfl⟩
  have HS:=Lib.hid (H.out.drewN n1)
  go_wp2_with fail
  refine(znm t none 0 0 p _ hts hp).mono ?_
  rw[HN.out]
  rintro e w2 ⟨rfl,hb2⟩
  have HS2:=Lib.hid (HS.out.next hb2)
  go_wp2_with fail
  refine(zcL q _ HS2.out (by omega)).mono ?_
  rw[HQ.out]
  rintro e w3 ⟨rfl,h3,hv3⟩
  go_wp2_with fail
  go_end0
  exact⟨rfl,i+q,Nat.le_add_right _ _,HD.out,h3,(Moved.of_below (((Below.refl _ _).drewN n1).trans hb2)).trans hv3⟩
theorem zlU{L:Ch}(h:InR L):Good (zl L):=fun r hr=>by
  have h1:=zaP _ r hr
  have h2:=h r.2 (zio _ r hr)
  exact⟨h1,h2.1,h2.2⟩
theorem zi0(L:Ch):zd (zl L)=L.map (·.2):=zM _
theorem znD(L:Ch):(zd (zl L)).length=(zi L).size:=by rw[zi0,List.length_map,zG]
theorem SrcM.far{w:World}{g:Nat}{L:Ch}{i m:Nat}{v4 v5:Value}(h:SrcM w g L i m v4 v5)(p:Addr)(hp:g < p.block)(u:Value):SrcM (w.setCell p u) g L i m v4 v5:=by
  obtain⟨A,n,c,k,hW,hL,r⟩:=h.cells
  exact⟨⟨A,n,c,k,hW.far _ (by omega) _,hL.below ((Below.refl g w).setCell (by omega) _),r⟩,h.le,h.inr,h.len⟩
theorem SrcM.cutNext{w:World}{g:Nat}{L:Ch}{i f k n c n' c':Nat}{v4 v5:Value}{A':Option Addr}{ad:Addr}{l o:Int}(h:SrcM w g L i f v4 v5)(hk:(zl L)[k]?=some (l,o))
    (hW:Whole w g 64 #[.string (zi L),.int .i64 (i:Int),.slice (some ad) n c,.int .i64 (zB (zl L) k:Int),v4,v5]) (hn:((zl L).drop k).length=n) (hnc:n<=c) (hL:Lies w g (some ad) (zc ((zl L).drop k))) (hl:1<=l)
    (hf:(zB (zl L) k:Int)+l<=(f:Int)) (hA':1 < c->A'=some (ad.add 2)) (hz:A'=none->c'=0) (hn':n'=n - 1) (hc':c'=c - 1) :
    SrcM ((w.setCell ⟨g,3,none⟩ (.int .i64 ((zB (zl L) k:Int)+l))).setCell ⟨g,2,none⟩ (.slice A' n' c')) g L i f v4 v5:=by
  subst hn' hc'
  have hkl:k < (zl L).length:=(List.getElem?_eq_some_iff.1 hk).1
  have hd:(zl L).drop k=(l,o)::(zl L).drop (k+1):=by
    rw[List.drop_eq_getElem_cons hkl]
    rw[List.getElem?_eq_getElem hkl]at hk
    injection hk with hk
    rw[hk]
  have hval:(zB (zl L) k:Int)+l=(zB (zl L) (k+1):Int):=by rw[zdm hk];omega
  refine⟨⟨A',n - 1,c - 1,k+1,?_,?_,?_,by omega,hz,by omega,hkl⟩,h.le,h.inr,h.len⟩
  . rw[<-hval];exact(hW.put 3 _).put 2 _
  . rw[hd]at hL hn
    by_cases hc:1 < c
    . rw[hA' hc]
      exact(zlw hL).below (((Below.refl g w).setCell (p:=⟨g,3,none⟩) (Nat.le_refl _) _).setCell (p:=⟨g,2,none⟩) (Nat.le_refl _) _)
    . have h0:(zl L).drop (k+1)=[]:=List.eq_nil_of_length_eq_zero (by simp at hn ⊢;omega)
      rw[h0]
      exact Lies.empty _ _ _
  . rw[hd]at hn;simp at hn;simp;omega
def zlV(g:Nat)(L:Ch)(i f:Nat)(v4 v5:Value)(w1 wr:World):Prop:=SrcM wr g L i f v4 v5/\Sv g w1 wr
def zcx(w:World)(g:Nat):Nat:=zpx ((w.cell? ⟨g,2,none⟩).getD .nilFunc)
theorem zev{w:World}{g n c:Nat}{A:Option Addr}(h:w.cell? ⟨g,2,none⟩=some (.slice A n c)):zcx w g=n:=by unfold zcx;rw[h];rfl
def zfj(g:Nat)(L l:Ch)(i m:Nat)(v4 v5:Value)(w:World)(e:Ending)(w':World):Prop:=
  ∃ u:LT,e=.returned (.agg #[.string u.s,.slice u.A u.n u.c])/\Hid (u.ch=l/\OwnL w' w.heap.size u)/\SrcM w' g L i m v4 v5/\Sv g w w'
theorem zpR{l:Ch}{s:ByteArray}{rs:List (Int × Int)}{w w':World}{A:Option Addr}{c:Nat}(hi:InR l)(hn:l.length<=4294967296)(hs:s=zi l)(hr:rs=comp (l.map (·.2)))(ho:w'.ownsRow w.heap.size 53 2 (.slice A rs.length c) rs.length (zc rs)) :
    (LT.mk s A rs.length c rs).ch=l/\OwnL w' w.heap.size ⟨s,A,rs.length,c,rs⟩:=by
  subst hs hr
  exact⟨zcr hi A c,rfl,⟨Nat.le_trans (zhB l) hn,by show comp (l.map (·.2))=comp ((zjj l A c).ch.map (·.2));rw[zcr hi]⟩,by show(zi l).size<=_;rw[zG];exact hn,ho⟩
theorem zcy{g:Nat}{L l:Ch}{i m r:Nat}{v4 v5:Value}{w w2:World}{u:LT}(hr:w.heap.size<=r)(hgr:g < r)(h:u.ch=l/\OwnL w2 (r+1) u)(hs:SrcM w2 g L i m v4 v5)(hv:Sv g w w2) :
    zfj g L l i m v4 v5 w (.returned (.agg #[.string u.s,.slice u.A u.n u.c])) ((w2.setCell ⟨r,0,none⟩ (.string u.s)).setCell ⟨r,1,none⟩ (.slice u.A u.n u.c)):=by
  refine⟨u,rfl,⟨h.1,h.2.1,h.2.2.1,h.2.2.2.1,?_⟩,(hs.far _ hgr _).far _ hgr _,(hv.setNew (p:=⟨r,0,none⟩) hr _).setNew (p:=⟨r,1,none⟩) hr _⟩
  exact zI (zS (zS h.2.2.2.2 _ (fun e=>by have:=(h.2.2.2.2.lt _ e).1;simp at this;omega) _) _ (fun e=>by have:=(h.2.2.2.2.lt _ e).1;simp at this;omega) _) (by omega)
theorem zjU{g:Nat}{L:Ch}{i m:Nat}{v4 v5:Value}(f t:Nat)(w:World)(h:SrcM w g L i m v4 v5)(hmf:m<=f)(hft:f<=t)(ht:t<=L.length) :
    Calls Tryz.prog 151 #[.pointer (some ⟨g,0,none⟩),.int .i64 (f:Int),.int .i64 (t:Int)] w (zfj g L ((L.take t).drop f) i f v4 v5 w):=by
  have hlt:=h.lt
  have hlen:=h.len
  have hg:=zlU h.inr
  have hex:=znD L
  have HINR:=Lib.hid h.inr
  have hrl:(zl L).length<=L.length:=by have:=zD (L.map (·.2));rw[List.length_map]at this;exact this
  have hts:(zi L).size=L.length:=zG L
  go_enter Tryz.func151,Tryz.ntmps151
  go_upto_block 0 with fail
  generalize hw1:w.alloc (.cells #[.string ⟨#[]⟩,.slice none 0 0] 24)=w1
  have y0:Whole w1 w.heap.size 24 #[.string ⟨#[]⟩,.slice none 0 0]:=by rw[<-hw1];exact Whole.made w _ _
  have hb1:Below w.heap.size w w1:=by rw[<-hw1];exact(Below.refl _ _).alloc (Nat.le_refl _) _
  have hz1:w1.heap.size=w.heap.size+1:=by rw[<-hw1];simp
  have hst1:=(h.mono hmf).next hb1
  clear h hw1
  have HZ1:=Lib.hid hz1
  have HG:=Lib.hid hg
  have HEX:=Lib.hid (hex.trans hts)
  have HTS:=Lib.hid hts
  clear hg hex hz1 hts
  go_cut [] (fun wx=>zlV g L i f v4 v5 w1 wx)
  case first=>
    go_wp2_with fail
    go_loopw [] (zlV g L i f v4 v5 w1) (fun wr=>zcx wr g)
    case atStart=>exact⟨hst1,Moved.refl _ _⟩
    case round=>
      obtain⟨hcs,hmv⟩:=hrel
      have HCS:=Lib.hid hcs
      obtain⟨A,n,c,k,hW,hLi,hn,hnc,hAn,hkf,_⟩:=hcs.cells
      have HN:=Lib.hid hn
      have HW:=Lib.hid hW
      have HLi:=Lib.hid hLi
      clear hn hcs hAn
      have c2:wr.cell? ⟨g,2,none⟩=some (.slice A n c):=hW.at_ 2
      have c3:wr.cell? ⟨g,3,none⟩=some (.int .i64 (zB (zl L) k:Int)):=hW.at_ 3
      have f2:=hW.free 2
      have f3:=hW.free 3
      clear hW
      by_cases hn0:0 < n
      . obtain⟨ad,l,o,rfl,hbA,hd1,hd2,HR⟩:=hLi.run (k:=0) (by rw[HN.out];exact hn0)
        have HR2:Hid ((zl L)[k]?=some (l,o)):=by have h:=HR.out;rw[List.getElem?_drop]at h;exact h
        obtain⟨hl1,ho1,ho2⟩:=HG.out (l,o) (List.mem_of_getElem? HR2.out)
        simp only at hl1 ho1 ho2
        have HLN:=Lib.hid (zdm HR2.out)
        have hle2:=zfP (zl L) (k+1)
        rw[HLN.out,HEX.out]at hle2
        have hd0:wr.cell? ad=some (.int .i64 l):=zlx ad ▸ hd1
        clear hd1 hd2 hLi
        have hni:(0:Int) < (n:Int):=by omega
        have hw:IntKind.i64.wrap ((zB (zl L) k:Int)+l)=(zB (zl L) k:Int)+l:=IntWalk.i64_in _ (by omega)
        by_cases hle:(zB (zl L) k:Int)+l<=(f:Int)
        . have hHLE:=Lib.hid hle
          have hLK:=Lib.hid hkf
          have HLE2:=Lib.hid hle2
          go_wp2_with fail
          go_quiet (fail)
          go_wp2_with fail
          have hS:(wr.drewN nq).drew.cell? ⟨g,3,none⟩=some (.int .i64 (zB (zl L) k:Int))/\(wr.drewN nq).drew.cell? ⟨g,2,none⟩=some (.slice (some ad) n c)/\(wr.drewN nq).drew.cell? ad=some (.int .i64 l):=⟨c3,c2,hd0⟩
          have f3':(wr.drewN nq).drew.frozen? ⟨g,3,none⟩=false:=f3
          have e3':(wr.drewN nq).drew.cell? ⟨g,3,none⟩=some (.int .i64 (zB (zl L) k:Int)):=c3
          have HWD:Hid (Whole (wr.drewN nq).drew g 64 #[.string (zi L),.int .i64 (i:Int),.slice (some ad) n c,.int .i64 (zB (zl L) k:Int),v4,v5]):=HW.out
          have HLD:Hid (Lies (wr.drewN nq).drew g (some ad) (zc ((zl L).drop k))):=HLi.out
          have HCD:Hid (SrcM (wr.drewN nq).drew g L i f v4 v5):=(HCS.out.drewN nq).next (Below.drew (Below.refl _ _))
          have HMD:Hid (Sv g w1 (wr.drewN nq).drew):=(hmv.drewN nq).drew
          have hRL:zcx wr g=n:=zev c2
          refine zad (S:=(fun V=>V.cell? ⟨g,3,none⟩=some (.int .i64 (zB (zl L) k:Int))/\V.cell? ⟨g,2,none⟩=some (.slice (some ad) n c)/\V.cell? ad=some (.int .i64 l))) (Z:=(fun i=>decide (12<=i))) (by kernel_rfl) ?_
          generalize (wr.drewN nq).drew=wq at *
          refine' zb (i:=0) ?i1 (by kernel_rfl) (by kernel_rfl) (by kernel_rfl) (by kernel_rfl) ?q1 ?y1 hS ?r1
          case i1=>simp only[zlD,zlE];rfl
          case q1=>exact fun _ _ _ h=>h
          case y1=>
            refine Or.inl ⟨by rfl,?_⟩
            intro wq hq
            try dsimp only at hq
            try obtain⟨hq0,hq1,hq2⟩:=hq
            go_simp
            try with_reducible rfl
          try simp only[Act.put,zlA,zlB,zlC]
          refine' zb (i:=1) ?i2 (by kernel_rfl) (by kernel_rfl) (by kernel_rfl) (by kernel_rfl) ?q2 ?y2 hS ?r2
          case i2=>simp only[zlD,zlF,zlE];rfl
          case q2=>exact fun _ _ _ h=>h
          case y2=>
            refine Or.inl ⟨by rfl,?_⟩
            intro wq hq
            try dsimp only at hq
            try obtain⟨hq0,hq1,hq2⟩:=hq
            go_simp
            try with_reducible rfl
          try simp only[Act.put,zlA,zlB,zlC]
          refine' zb (i:=2) ?i3 (by kernel_rfl) (by kernel_rfl) (by kernel_rfl) (by kernel_rfl) ?q3 ?y3 hS ?r3
          case i3=>simp only[zlD,zlF,zlE];rfl
          case q3=>exact fun _ _ _ h=>h
          case y3=>
            refine Or.inl ⟨by rfl,?_⟩
            intro wq hq
            try dsimp only at hq
            try obtain⟨hq0,hq1,hq2⟩:=hq
            go_simp
            try with_reducible rfl
          try simp only[Act.put,zlA,zlB,zlC]
          refine' zb (i:=3) ?i4 (by kernel_rfl) (by kernel_rfl) (by kernel_rfl) (by kernel_rfl) ?q4 ?y4 hS ?r4
          case i4=>simp only[zlD,zlF,zlE];rfl
          case q4=>exact fun _ _ _ h=>h
          case y4=>
            refine Or.inl ⟨by rfl,?_⟩
            intro wq hq
            try dsimp only at hq
            try obtain⟨hq0,hq1,hq2⟩:=hq
            go_simp
            try with_reducible rfl
          try simp only[Act.put,zlA,zlB,zlC]
          refine' zb (i:=4) ?i5 (by kernel_rfl) (by kernel_rfl) (by kernel_rfl) (by kernel_rfl) ?q5 ?y5 hS ?r5
          case i5=>simp only[zlD,zlF,zlE];rfl
          case q5=>exact fun _ _ _ h=>h
          case y5=>
            refine Or.inl ⟨by rfl,?_⟩
            intro wq hq
            try dsimp only at hq
            try obtain⟨hq0,hq1,hq2⟩:=hq
            go_simp
            try with_reducible rfl
          try simp only[Act.put,zlA,zlB,zlC]
          refine' zb (i:=5) ?i6 (by kernel_rfl) (by kernel_rfl) (by kernel_rfl) (by kernel_rfl) ?q6 ?y6 hS ?r6
          case i6=>simp only[zlD,zlF,zlE];rfl
          case q6=>exact fun _ _ _ h=>h
          case y6=>
            refine Or.inl ⟨by rfl,?_⟩
            intro wq hq
            try dsimp only at hq
            try obtain⟨hq0,hq1,hq2⟩:=hq
            go_simp
            try with_reducible rfl
          try simp only[Act.put,zlA,zlB,zlC]
          refine' zb (i:=6) ?i7 (by kernel_rfl) (by kernel_rfl) (by kernel_rfl) (by kernel_rfl) ?q7 ?y7 hS ?r7
          case i7=>simp only[zlD,zlF,zlE];rfl
          case q7=>exact fun _ _ _ h=>h
          case y7=>
            refine Or.inl ⟨by rfl,?_⟩
            intro wq hq
            try dsimp only at hq
            try obtain⟨hq0,hq1,hq2⟩:=hq
            go_simp
            try with_reducible rfl
          try simp only[Act.put,zlA,zlB,zlC]
          refine' zb (i:=7) ?i8 (by kernel_rfl) (by kernel_rfl) (by kernel_rfl) (by kernel_rfl) ?q8 ?y8 hS ?r8
          case i8=>simp only[zlD,zlF,zlE];rfl
          case q8=>exact fun _ _ _ h=>h
          case y8=>
            refine Or.inl ⟨by rfl,?_⟩
            intro wq hq
            try dsimp only at hq
            try obtain⟨hq0,hq1,hq2⟩:=hq
            go_simp
            try with_reducible rfl
          try simp only[Act.put,zlA,zlB,zlC]
          refine' zb (i:=8) ?i9 (by kernel_rfl) (by kernel_rfl) (by kernel_rfl) (by kernel_rfl) ?q9 ?y9 hS ?r9
          case i9=>simp only[zlD,zlF,zlE];rfl
          case q9=>exact fun _ _ _ h=>h
          case y9=>
            refine Or.inl ⟨by rfl,?_⟩
            intro wq hq
            try dsimp only at hq
            try obtain⟨hq0,hq1,hq2⟩:=hq
            go_simp
            try with_reducible rfl
          try simp only[Act.put,zlA,zlB,zlC]
          refine' zb (i:=9) ?i10 (by kernel_rfl) (by kernel_rfl) (by kernel_rfl) (by kernel_rfl) ?q10 ?y10 hS ?r10
          case i10=>simp only[zlD,zlF,zlE];rfl
          case q10=>exact fun _ _ _ h=>h
          case y10=>
            refine Or.inl ⟨by rfl,?_⟩
            intro wq hq
            try dsimp only at hq
            try obtain⟨hq0,hq1,hq2⟩:=hq
            go_simp
            try with_reducible rfl
          try simp only[Act.put,zlA,zlB,zlC]
          refine' zb (i:=10) ?i11 (by kernel_rfl) (by kernel_rfl) (by kernel_rfl) (by kernel_rfl) ?q11 ?y11 hS ?r11
          case i11=>simp only[zlD,zlF,zlE];rfl
          case q11=>exact fun _ _ _ h=>h
          case y11=>
            refine Or.inl ⟨by rfl,?_⟩
            intro wq hq
            try dsimp only at hq
            try obtain⟨hq0,hq1,hq2⟩:=hq
            go_simp
            try with_reducible rfl
          try simp only[Act.put,zlA,zlB,zlC]
          refine' zb (i:=11) ?i12 (by kernel_rfl) (by kernel_rfl) (by kernel_rfl) (by kernel_rfl) ?q12 ?y12 hS ?r12
          case i12=>simp only[zlD,zlF,zlE];rfl
          case q12=>exact fun _ _ _ h=>h
          case y12=>
            refine Or.inl ⟨by rfl,?_⟩
            intro wq hq
            try dsimp only at hq
            try obtain⟨hq0,hq1,hq2⟩:=hq
            go_simp
            try with_reducible rfl
          try simp only[Act.put,zlA,zlB,zlC]
          refine za (rs:=[12]) (by kernel_rfl) (by simp) ?_
          refine' ReadyL.cons ?o13 (fun K hK=>?s13) ReadyL.nil
          case o13=>simp only[zlD,zlF,zlE];rfl
          go_simp
          refine hK.out _ _ (.inl (by decide)) ?_
          clear hK K
          try simp only[Act.put,zlA,zlB,zlC]
          refine za (rs:=[13]) (by kernel_rfl) (by simp) ?_
          refine' ReadyL.cons ?o14 (fun K hK=>?s14) ReadyL.nil
          case o14=>simp only[zlD,zlF,zlE];rfl
          go_simp
          refine hK.out _ _ (.inl (by decide)) ?_
          clear hK K
          try simp only[Act.put,zlA,zlB,zlC]
          refine za (rs:=[14]) (by kernel_rfl) (by simp) ?_
          refine' ReadyL.cons ?o15 (fun K hK=>?s15) ReadyL.nil
          case o15=>simp only[zlD,zlF,zlE];rfl
          go_simp
          refine hK.out _ _ (.inl (by decide)) ?_
          clear hK K
          try simp only[Act.put,zlA,zlB,zlC]
          refine zg (by kernel_rfl) ?_ _
          have hWS:=HWD.out.put 3 (.int .i64 ((zB (zl L) k:Int)+l))
          have g2:(wq.setCell ⟨g,3,none⟩ (.int .i64 ((zB (zl L) k:Int)+l))).cell? ⟨g,2,none⟩=some (.slice (some ad) n c):=hWS.at_ 2
          have k2:=hWS.free 2
          have HXX:Hid (∀ A' n' c',(1 < c->A'=some (ad.add 2))->(A'=none->c'=0)->n'=n - 1->c'=c - 1->SrcM ((wq.setCell ⟨g,3,none⟩ (.int .i64 ((zB (zl L) k:Int)+l))).setCell ⟨g,2,none⟩ (.slice A' n' c')) g L i f v4 v5/\Sv g w1 ((wq.setCell ⟨g,3,none⟩ (.int .i64 ((zB (zl L) k:Int)+l))).setCell ⟨g,2,none⟩ (.slice A' n' c'))/\zcx ((wq.setCell ⟨g,3,none⟩ (.int .i64 ((zB (zl L) k:Int)+l))).setCell ⟨g,2,none⟩ (.slice A' n' c')) g < zcx wr g):=by
            intro A' n' c' a1 a2 a3 a4
            refine⟨SrcM.cutNext HCD.out HR2.out HWD.out HN.out hnc HLD.out hl1 hHLE.out a1 a2 a3 a4,Moved.setCell (S:=fun b=>b=g) (Moved.setCell (S:=fun b=>b=g) HMD.out (p:=⟨g,3,none⟩) rfl _) (p:=⟨g,2,none⟩) rfl _,?_⟩
            rw[hRL,zev ((hWS.put 2 _).at_ 2),a3]
            omega
          clear hWS HWD HLD HCD HMD hRL hS f3' e3'
          generalize wq.setCell ⟨g,3,none⟩ (.int .i64 ((zB (zl L) k:Int)+l))=ws at *
          clear c2 c3 f2 f3 hd0 hle hw hle2 hkf
          by_cases hc1:c=1
          . subst hc1
            obtain rfl:n=1:=by omega
            go_wp2_with fail
            go_roundw
            case rel=>exact⟨(HXX.out _ _ _ (fun h=>absurd h (by omega)) (fun h=>by cases h) rfl rfl).1,(HXX.out _ _ _ (fun h=>absurd h (by omega)) (fun h=>by cases h) rfl rfl).2.1⟩
            case measure=>exact(HXX.out _ _ _ (fun h=>absurd h (by omega)) (fun h=>by cases h) rfl rfl).2.2
          . have hc2:1 < c:=by omega
            go_wp2_with fail
            go_roundw
            case rel=>exact⟨(HXX.out _ _ _ (fun _=>(zfQ ad).symm ▸ rfl) (fun h=>by cases h) rfl rfl).1,(HXX.out _ _ _ (fun _=>(zfQ ad).symm ▸ rfl) (fun h=>by cases h) rfl rfl).2.1⟩
            case measure=>exact(HXX.out _ _ _ (fun _=>(zfQ ad).symm ▸ rfl) (fun h=>by cases h) rfl rfl).2.2
        . go_wp2_with fail
          go_quiet (fail)
          go_wp2_with fail
          go_meet
          exact⟨HCS.out.drewN _,hmv.drewN _⟩
      . go_wp2_with fail
        go_quiet (fail)
        go_wp2_with fail
        go_meet
        exact⟨HCS.out.drewN _,hmv.drewN _⟩
  case rest=>
    clear hst1
    obtain⟨hcs,hmv⟩:=hcut
    have HCS:=Lib.hid hcs
    obtain⟨A,n,c,k,hW,hLi,hn,hnc,hAn,hkf,hkl⟩:=hcs.cells
    have HN:=Lib.hid hn
    clear hn hcs hAn
    have c0:wc.cell? ⟨g,0,none⟩=some (.string (zi L)):=hW.at_ 0
    have c2:wc.cell? ⟨g,2,none⟩=some (.slice A n c):=hW.at_ 2
    have c3:wc.cell? ⟨g,3,none⟩=some (.int .i64 (zB (zl L) k:Int)):=hW.at_ 3
    have hrn:k+n=(zl L).length:=by rw[<-HN.out,List.length_drop];omega
    have HRN:=Lib.hid hrn
    clear hrn
    have hyW:=hmv.whole y0 (by omega)
    have hzc:=hmv.size
    rw[HZ1.out]at hzc
    go_wp2_with fail
    go_quiet (fail)
    go_wp2_with fail
    go_loop [7,8] (zoW (zl L) k) (fun j _=>(zl L).length - (intOf j).toNat)
    case atStart=>exact⟨0,by omega,rfl,rfl⟩
    case round=>
      obtain⟨j,hj,rfl,rfl⟩:=hrel
      have hE:=zfP (zl L) (k+j)
      rw[HEX.out]at hE
      by_cases he:zB (zl L) (k+j) < t
      . have hjl:k+j < (zl L).length:=by
          rcases Nat.lt_or_ge (k+j) (zl L).length with h | h
          . exact h
          . have:=zlu h;rw[HEX.out]at this;omega
        have hjn:j < n:=by have:=HRN.out;omega
        obtain⟨ad,l,o,rfl,hbA,hd1,hd2,HR⟩:=hLi.run (k:=j) (by rw[HN.out];exact hjn)
        have HR2:Hid ((zl L)[k+j]?=some (l,o)):=by have h:=HR.out;rw[List.getElem?_drop]at h;exact h
        obtain⟨hl1,ho1,ho2⟩:=HG.out (l,o) (List.mem_of_getElem? HR2.out)
        simp only at hl1 ho1 ho2
        have HLN:=Lib.hid (zdm HR2.out)
        have hle2:=zfP (zl L) (k+j+1)
        rw[HLN.out,HEX.out]at hle2
        have hj0:(0:Int)<=(j:Int):=Int.natCast_nonneg _
        have hj1:(j:Int) < (n:Int):=by omega
        clear hd2
        go_wp2_with fail
        go_round
        case rel=>exact⟨j+1,by omega,by go_num,by rw[<-Nat.add_assoc,HLN.out];exact congrArg (Value.int .i64) (by omega)⟩
        case measure=>simp [intOf];omega
      . have hjn:j<=n:=by have:=HRN.out;omega
        have hjc:j<=c:=by omega
        have haE:zB (zl L) k<=zB (zl L) (k+j):=by rw[zg1];omega
        have HSP:=Lib.hid (zdC (zl L) k j)
        have HTK:Hid ((zd (((zl L).drop k).take j)).length=zB (zl L) (k+j) - zB (zl L) k):=by show _=_;rw[zg1];omega
        have HRL:Hid ((((zl L).drop k).take j).length=j):=by show _=_;rw[List.length_take,HN.out];omega
        have hts:=HTS.out
        have HSZ:Hid (((zi L).extract (zB (zl L) k) (zB (zl L) (k+j))).size=zB (zl L) (k+j) - zB (zl L) k):=by show _=_;rw[ByteArray.size_extract];omega
        have HA:Hid (min (max ((f:Int) - (zB (zl L) k:Int)) 0) ((((zi L).extract (zB (zl L) k) (zB (zl L) (k+j))).size:Nat):Int)=((f - zB (zl L) k:Nat):Int)):=by show _=_;rw[HSZ.out];omega
        have HB:Hid (min (max ((t:Int) - (zB (zl L) k:Int)) 0) ((((zi L).extract (zB (zl L) k) (zB (zl L) (k+j))).size:Nat):Int)=((t - zB (zl L) k:Nat):Int)):=by show _=_;rw[HSZ.out];omega
        have hsl:(zi L).data.toList.length=(zi L).size:=by rw[Array.length_toList];rfl
        have HT1:Hid ((((zi L).extract (zB (zl L) k) (zB (zl L) (k+j))).data.toList.take (t - zB (zl L) k)).drop (f - zB (zl L) k)=((zi L).data.toList.take t).drop f):=by
          show _=_
          rw[zbs]
          have h:=zlv ((zi L).data.toList.take (zB (zl L) k)) (((zi L).data.toList.take (zB (zl L) (k+j))).drop (zB (zl L) k)) ((zi L).data.toList.drop (zB (zl L) (k+j))) f t (by rw[List.length_take];omega) (by rw[List.length_take];omega) (by rw[List.length_take,List.length_drop,List.length_take];omega)
          rw[List.length_take,Nat.min_eq_left (by omega)]at h
          rw[h]
          congr 2
          have e1:(zi L).data.toList.take (zB (zl L) k)=((zi L).data.toList.take (zB (zl L) (k+j))).take (zB (zl L) k):=by rw[List.take_take,Nat.min_eq_left haE]
          rw[e1,List.take_append_drop,List.take_append_drop]
        have HT2:Hid (((zF ((zi L).extract (zB (zl L) k) (zB (zl L) (k+j))).size (((zl L).drop k).take j)).take (t - zB (zl L) k)).drop (f - zB (zl L) k)=((zd (zl L)).take t).drop f):=by
          show _=_
          rw[zg2 (fun r hr=>HG.out r (List.mem_of_mem_drop (List.mem_of_mem_take hr))) (HTK.out.trans HSZ.out.symm)]
          have h:=zlv (zd ((zl L).take k)) (zd (((zl L).drop k).take j)) (zd ((zl L).drop (k+j))) f t hkf (by show zB (zl L) k<=t;omega) (by rw[HTK.out];show t<=zB (zl L) k+_;omega)
          rw[<-HSP.out]at h
          exact h
        have hLj:Lies wc g A (zc (((zl L).drop k).take j)):=by
          have h:=hLi
          rw[<-List.take_append_drop j ((zl L).drop k)]at h
          exact zjM h
        have hE2:(zB (zl L) (k+j):Int)<=((zi L).size:Int):=by omega
        have ht2:(t:Int)<=((zi L).size:Int):=by omega
        have haE2:(zB (zl L) k:Int)<=(zB (zl L) (k+j):Int):=by omega
        have hjc2:(j:Int)<=(c:Int):=by omega
        have hzc1:w.heap.size<=wc.heap.size:=by omega
        have hzc2:w.heap.size < wc.heap.size:=by omega
        have e1:(⟨(((zi L).data.toList.take t).drop f).toArray⟩:ByteArray)=zi ((L.take t).drop f):=by rw[zX];unfold zi;rw[List.map_drop,List.map_take]
        have e2:comp (((zd (zl L)).take t).drop f)=comp (((L.take t).drop f).map (·.2)):=by rw[zi0,List.map_drop,List.map_take]
        have HCUT:Hid (∀ W,Below w.heap.size wc W->Calls Tryz.prog 8 #[.agg #[.string ((zi L).extract (zB (zl L) k) (zB (zl L) (k+j))),.slice A j c],.int .i64 ((f:Int) - (zB (zl L) k:Int)),.int .i64 ((t:Int) - (zB (zl L) k:Int))] W (zdJ (zi ((L.take t).drop f)) (comp (((L.take t).drop f).map (·.2))) W)):=by
          intro W hW
          have h:=zom ((zi L).extract (zB (zl L) k) (zB (zl L) (k+j))) A j c (((zl L).drop k).take j) _ _ (f - zB (zl L) k) (t - zB (zl L) k) W ((hLj.mono (by omega)).next hW hzc1) HRL.out (by rw[HSZ.out];omega) (by omega) HA.out HB.out
          rw[HT1.out,HT2.out,e1,e2]at h
          exact h
        have HTO:Hid (InR ((L.take t).drop f)/\((L.take t).drop f).length<=4294967296):=⟨(HINR.out.take _).drop _,by rw[List.length_drop,List.length_take];omega⟩
        clear hsl hLj HSP HTK HRL HSZ HA HB HT1 HT2 hts e1 e2
        have KS:∀ w',Below w.heap.size wc w'->w'.cell? ⟨g,0,none⟩=some (.string (zi L))/\w'.cell? ⟨g,3,none⟩=some (.int .i64 (zB (zl L) k:Int))/\w'.cell? ⟨g,2,none⟩=some (.slice A n c)/\Below w.heap.size wc w':=fun w' h=>
          ⟨(h.cell (by show g < _;omega)).trans c0,(h.cell (by show g < _;omega)).trans c3,(h.cell (by show g < _;omega)).trans c2,h⟩
        have HKS:=Lib.hid KS
        have HLI:=Lib.hid hLi
        have HHE:=Lib.hid hE
        have HWW:=Lib.hid hW
        clear KS hW hLi hE
        generalize hEE:zB (zl L) (k+j)=E at *
        generalize haa:zB (zl L) k=a0 at *
        have HEE:=Lib.hid hEE
        have HAA:=Lib.hid haa
        clear hEE haa
        generalize hres:(L.take t).drop f=res at *
        have HRS:=Lib.hid hres
        clear hres
        generalize hsq:zi L=s at *
        have HSQ:=Lib.hid hsq
        clear hsq
        have b1:(0:Int)<=(a0:Int):=Int.natCast_nonneg _
        have b2:(0:Int)<=(E:Int):=Int.natCast_nonneg _
        have b3:(0:Int)<=(j:Int):=Int.natCast_nonneg _
        have b4:IntKind.i64.wrap ((f:Int) - (a0:Int))=(f:Int) - (a0:Int):=IntWalk.i64_in _ (by omega)
        have b5:IntKind.i64.wrap ((t:Int) - (a0:Int))=(t:Int) - (a0:Int):=IntWalk.i64_in _ (by omega)
        go_wp2_with fail
        go_region_held3 (fun w'=>w'.cell? ⟨g,0,none⟩=some (.string s)/\w'.cell? ⟨g,3,none⟩=some (.int .i64 (a0:Int))/\w'.cell? ⟨g,2,none⟩=some (.slice A n c)/\Below w.heap.size wc w')
          (first
            | exact HKS.out _ (Below.drew (Below.drewN (Below.refl _ _) _))
            | exact HKS.out _ (Below.drewN (Below.refl _ _) _)
            | (go_split_ands;exact HKS.out _ (by assumption))
            | (go_split_ands;exact HKS.out _ (zf (by assumption) hzc1 hbC))
            | (go_split_ands;refine HKS.out _ ?_;refine Below.setCell (p:=⟨w.heap.size,1,none⟩) ?_ (Nat.le_refl _) _;refine Below.setCell (p:=⟨w.heap.size,0,none⟩) ?_ (Nat.le_refl _) _;assumption))
          (first
            | (go_at_call 8;refine(HCUT.out _ ?_).mono ?_;(go_split_ands;assumption);rintro e w2 ⟨v,rfl,hown,hbC⟩;obtain⟨A',c',rfl,_,_,_⟩:=zh hown;have hwC:=hyW.same (hbC.block _ hzc2);have c10:=hwC.at_ 0;have c11:=hwC.at_ 1;have f10:=hwC.free 0;have f11:=hwC.free 1))
        all_goals
          have HC2:Hid (SrcM w2 g L i f v4 v5):=SrcM.next (w:=(wc.drewN _).drew) (SrcM.next HCS.out (Below.drew (Below.drewN (Below.refl _ _) _))) hbC
          have HM2:Hid (Sv g w w2):=(((Moved.of_below hb1).trans hmv).drewN _).drew.trans (Moved.of_below hbC)
          have HO2:Hid ((LT.mk (zi res) A' (comp (res.map (·.2))).length c' (comp (res.map (·.2)))).ch=res/\OwnL w2 (w.heap.size+1) ⟨zi res,A',(comp (res.map (·.2))).length,c',comp (res.map (·.2))⟩):=by
            have h1:=zpR (w:=(wc.drewN _).drew) (w':=w2) HTO.out.1 HTO.out.2 rfl rfl hown
            exact⟨h1.1,h1.2.mono hzc2⟩
          clear hown
          go_wp2
          refine bodyPost_ret (v:=.agg #[.string (zi res),.slice A' (comp (res.map (·.2))).length c']) ?_ rfl ?_
          . simp [results,Tryz.results151,go_sem,c10,c11]
          . exact zcy (u:=⟨zi res,A',(comp (res.map (·.2))).length,c',comp (res.map (·.2))⟩) (Nat.le_refl _) hlt HO2.out HC2.out HM2.out
end Go.Proofs.YtddgabjhligeeaaGreat.mk
