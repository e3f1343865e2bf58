import Derived.Test.YtddgabjhligeeaaGreatJoinS
import Derived.Deep.DeepCutAuto
set_option maxHeartbeats 2000000
set_option maxRecDepth 100000
namespace Go.Proofs.YtddgabjhligeeaaGreat.mk
open Go.RowKit
def za9(ws:List (UInt8 × ByteArray))(l:List (UInt8 × Int)):List (UInt8 × Int):=ws.foldl (fun l x=>za8 (fun b=>b == x.1) x.2.data.toList l) l
theorem zmA{ws:List (UInt8 × ByteArray)}{k:Nat}{x:UInt8 × ByteArray}(h:ws[k]?=some x)(l:List (UInt8 × Int)):za9 (ws.take (k+1)) l=za8 (fun b=>b == x.1) x.2.data.toList (za9 (ws.take k) l):=by
  rw[zC h]
  unfold za9
  rw[List.foldl_append]
  rfl
theorem InR.repl{f:UInt8->Bool}{y:List UInt8}{l:List (UInt8 × Int)}(h:InR l):InR (za8 f y l):=by
  intro o ho
  obtain⟨x,hx,rfl⟩:=List.mem_map.1 ho
  obtain⟨z,hz,hx⟩:=List.mem_flatMap.1 hx
  have hz2:z.2∈l.map (·.2):=List.mem_map.2 ⟨z,hz,rfl⟩
  split at hx
  . obtain⟨b,_,rfl⟩:=List.mem_map.1 hx
    exact h _ hz2
  . simp only[List.mem_cons,List.not_mem_nil,or_false]at hx
    subst hx
    exact h _ hz2
theorem InR.swap{ws:List (UInt8 × ByteArray)}{l:List (UInt8 × Int)}(h:InR l):InR (za9 ws l):=by
  induction ws generalizing l with
  | nil=>exact h
  | cons x ws ih=>exact ih h.repl
def zbV(ws:List (UInt8 × ByteArray)):List Value:=ws.flatMap fun x=>[.int .u8 x.1.toNat,.string x.2]
theorem zmB(ws:List (UInt8 × ByteArray))(k:Nat)(x:UInt8 × ByteArray)(h:ws[k]?=some x):(zbV ws)[k * 2]?=some (.int .u8 x.1.toNat)/\(zbV ws)[k * 2+1]?=some (.string x.2):=by
  induction ws generalizing k with
  | nil=>simp at h
  | cons z ws ih=>
    have e:zbV (z::ws)=.int .u8 z.1.toNat::.string z.2::zbV ws:=rfl
    rw[e]
    cases k with
    | zero=>simp at h;subst h;simp
    | succ k=>
      have:=ih k (by simpa using h)
      rw[show(k+1) * 2=k * 2+1+1 by omega]
      simpa using this
theorem Lies.sw{w:World}{B:Nat}{A:Option Addr}{ws:List (UInt8 × ByteArray)}(h:Lies w B A (zbV ws)){k:Nat}(hk:k < ws.length) :
    ∃ ad x y,A=some ad/\ad.block < B/\w.cell? (ad.add (k * 2))=some (.int .u8 (x:UInt8).toNat)/\w.cell? ⟨(ad.add (k * 2)).block,(ad.add (k * 2)).off+1,none⟩=some (.string y)/\Hid (ws[k]?=some (x,y)):=by
  obtain⟨h1,h2⟩:=zmB ws k ws[k] (List.getElem?_eq_getElem hk)
  obtain⟨ad,e,hb,hc⟩:=h _ _ h1
  obtain⟨ad',e',_,hc'⟩:=h _ _ h2
  rw[e]at e'
  injection e' with e'
  subst e'
  rw[zaF]at hc'
  exact⟨ad,ws[k].1,ws[k].2,e,hb,hc,hc',List.getElem?_eq_getElem hk⟩
def zux(ws:List (UInt8 × ByteArray))(n:Nat)(L:List (UInt8 × Int))(B:Nat)(w0:World)(i:Value)(wr:World):Prop:=
  ∃ (k:Nat) (t:LT),k<=n/\i=.int .i64 (k:Int)/\t.ok wr wr.heap.size/\t.ch=za9 (ws.take k) L/\Whole wr B 24 #[.string t.s,.slice t.A t.n t.c]/\Whole wr (B+1) 24 #[.string ⟨#[]⟩,.slice none 0 0]/\
    Below B w0 wr/\(0 < k->t.s=zh (za9 (ws.take k) L)/\t.n=runN (za9 (ws.take k) L)/\wr.ownsRow (B+2) 53 2 (.slice t.A t.n t.c) (runN (za9 (ws.take k) L)) (zd (comp ((za9 (ws.take k) L).map (·.2)))))
theorem zuy(t:LT)(x:UInt8)(y:ByteArray)(w:World)(ht:t.ok w w.heap.size)(hs:t.s.size<=4294967296)(hy:y.size<=64) :
    Calls Tryz.prog 134 #[.agg #[.string t.s,.slice t.A t.n t.c],.int .u8 x.toNat,.string y] w (zbD (zh (za8 (fun b=>b == x) y.data.toList t.ch)) (comp ((za8 (fun b=>b == x) y.data.toList t.ch).map (·.2))) w):=
  zq2 t.s y x t.A t.n t.c t.rs w ht.1 ht.2.1 hs ht.2.2.1 (Nat.le_trans (Nat.mul_le_mul hs (Nat.succ_le_succ hy)) (by decide))
theorem zg9(a:LT)(ws:List (UInt8 × ByteArray))(D:Option Addr)(n c:Nat)(w:World)(ha:a.ok w w.heap.size)(hl:Lies w w.heap.size D (zbV ws))(hn:ws.length=n)(hn0:0 < n)(hn1:n<=16)(hy:∀ x∈ws,x.2.size<=64)(hz:∀ k,k<=n->(za9 (ws.take k) a.ch).length<=4294967296) :
    Calls Tryz.prog 92 #[.agg #[.string a.s,.slice a.A a.n a.c],.slice D n c] w (zbD (zh (za9 ws a.ch)) (comp ((za9 ws a.ch).map (·.2))) w):=by
  have HN:=Lib.hid hn
  have HY:=Lib.hid hy
  have HZ:=Lib.hid hz
  have HA:=Lib.hid ha
  clear hn hy hz ha
  have HI:Hid (InR a.ch):=a.ch_in
  obtain⟨L,hL⟩:∃ L,L=a.ch:=⟨_,rfl⟩
  rw[<-hL]at HZ HI ⊢
  have HL:=Lib.hid hL
  clear hL
  go_enter Tryz.func92,Tryz.ntmps92
  go_wp2_with fail
  generalize hw0:(w.alloc (.cells #[.string a.s,.slice a.A a.n a.c] 24)).alloc (.cells #[.string ⟨#[]⟩,.slice none 0 0] 24)=w0
  have y0:Whole w0 w.heap.size 24 #[.string a.s,.slice a.A a.n a.c]:=by rw[<-hw0];exact(Whole.made w _ _).alloc _
  have y1:Whole w0 (w.heap.size+1) 24 #[.string ⟨#[]⟩,.slice none 0 0]:=by
    rw[<-hw0]
    have h:=Whole.made (w.alloc (.cells #[.string a.s,.slice a.A a.n a.c] 24)) 24 #[.string ⟨#[]⟩,.slice none 0 0]
    simp only[World.size_alloc]at h
    exact h
  have hz0:w0.heap.size=w.heap.size+2:=by rw[<-hw0];simp
  have hb0:Below w.heap.size w w0:=by rw[<-hw0];exact((Below.refl _ _).alloc (Nat.le_refl _) _).alloc (by simp) _
  have hl0:Lies w0 w.heap.size D (zbV ws):=hl.below hb0
  have ha0:=HA.out.next hb0 (Nat.le_refl _)
  clear hw0 hl
  have hzw:w.heap.size<=w0.heap.size:=by omega
  go_loopw [9] (zux ws n L w.heap.size w0) (fun i _=>n - (intOf i).toNat)
  case atStart=>exact⟨0,a,Nat.zero_le _,rfl,ha0,HL.out.symm,y0,y1,Below.refl _ _,fun h=>absurd h (Nat.lt_irrefl _)⟩
  case round=>
    obtain⟨k,t,hk,rfl,hok,hch,hW,hZ,hbl,hown⟩:=hrel
    have hws:=hbl.size
    have HOK:=Lib.hid hok
    have HCH:=Lib.hid hch
    have HOWN:=Lib.hid hown
    clear hok hch hown
    by_cases hlt:k < n
    . obtain⟨ad,x,y,rfl,hb,hc1,hc2,HR⟩:=(hl0.below hbl).sw (k:=k) (by rw[HN.out];exact hlt)
      have hk0:(0:Int)<=(k:Int):=Int.natCast_nonneg _
      have hk1:(k:Int) < (n:Int):=by omega
      have d0:wr.cell? ⟨w.heap.size,0,none⟩=some (.string t.s):=hW.at_ 0
      have d1:wr.cell? ⟨w.heap.size,1,none⟩=some (.slice t.A t.n t.c):=hW.at_ 1
      have hwl:=hW.lt
      have HE:=Lib.hid (zmA HR.out L)
      have hyy:y.size<=64:=HY.out (x,y) (List.mem_of_getElem? HR.out)
      have hts:t.s.size<=4294967296:=by
        have h:=HZ.out k hk
        rw[<-HCH.out,LT.ch_length]at h
        exact h
      go_wp2_with fail
      refine(zuy t x y _ (HOK.out.next ((Below.refl _ _).alloc (Nat.le_refl _) _) (Nat.le_refl _)) hts hyy).mono ?_
      rw[HCH.out,<-HE.out]
      have hRI:InR (za9 (ws.take (k+1)) L):=HI.out.swap
      have hRZ:=HZ.out (k+1) (by omega)
      generalize hR:za9 (ws.take (k+1)) L=R at *
      have GR:=Lib.hid hR
      have HRI:=Lib.hid hRI
      clear hR hRI
      rintro e w2 ⟨v,rfl,ho2,hb2⟩
      obtain⟨A2,c2,rfl,_,_,_⟩:=zg ho2
      simp only[World.size_alloc]at hb2 ho2
      have hz2:=hb2.size
      simp only[World.size_alloc]at hz2
      have hW2:=(hW.alloc (.cells #[.int .u8 x.toNat,.string y] 123)).below hb2 (by omega)
      have hZ2:=(hZ.alloc (.cells #[.int .u8 x.toNat,.string y] 123)).below hb2 (by omega)
      have g0:w2.cell? ⟨w.heap.size,0,none⟩=some (.string t.s):=hW2.at_ 0
      have g1:w2.cell? ⟨w.heap.size,1,none⟩=some (.slice t.A t.n t.c):=hW2.at_ 1
      have f0:=hW2.free 0
      have f1:=hW2.free 1
      have hbF:Below w.heap.size w0 w2:=hbl.trans (((Below.refl _ _).alloc (Nat.le_refl _) _).trans (hb2.mono (by omega)) |>.mono (by omega))
      have HO2:=Lib.hid ho2
      have hrl:(comp (R.map (·.2))).length=runN R:=rfl
      rw[hrl]at HO2 ⊢
      clear ho2 hrl
      generalize hq:runN R=q at *
      have HQ:=Lib.hid hq
      generalize hT:zh R=T at *
      have HT:=Lib.hid hT
      clear hq hT
      go_wp2_with fail
      go_roundw
      case rel=>
        have hfar:(w2.setCell ⟨w.heap.size,0,none⟩ (.string T)).setCell ⟨w.heap.size,1,none⟩ (.slice A2 q c2) |>.ownsRow (w.heap.size+2) 53 2 (.slice A2 q c2) q (zd (comp (R.map (·.2)))):=by
          refine zD (base:=wr.heap.size+1) (zQ (zQ HO2.out _ (fun h=>?_) _) _ (fun h=>?_) _) (by omega)
          . have:=(HO2.out.lt _ h).1;simp at this;omega
          . have:=(HO2.out.lt _ h).1;simp at this;omega
        refine⟨k+1,zbK R A2 c2,by omega,by go_num,zcK c2 ?_ hRZ,(zav HRI.out A2 c2).trans GR.out.symm,?_,?_,(hbF.setCell (p:=⟨w.heap.size,0,none⟩) (Nat.le_refl _) _).setCell (p:=⟨w.heap.size,1,none⟩) (Nat.le_refl _) _,fun _=>?_⟩
        . exact Lies.own hfar
        . have h:=(hW2.put 0 (.string T)).put 1 (.slice A2 q c2)
          show Whole _ _ _ #[.string (zh R),.slice A2 (runN R) c2]
          rw[HT.out,HQ.out]
          exact h
        . exact(hZ2.far _ (by simp) _).far _ (by simp) _
        . rw[GR.out,HQ.out]
          refine⟨rfl,HQ.out,?_⟩
          show World.ownsRow _ _ _ _ (.slice A2 (runN R) c2) _ _
          rw[HQ.out]
          exact hfar
      case measure=>simp [intOf];omega
    . have hkn:k=n:=by omega
      subst hkn
      have HF:Hid (ws.take k=ws):=List.take_of_length_le (by rw[HN.out];exact Nat.le_refl _)
      obtain⟨h1,h2,h3⟩:=HOWN.out hn0
      rw[HF.out]at h1 h2 h3
      obtain⟨s,A,m,c',rs⟩:=t
      simp only at h1 h2 h3
      have d0:wr.cell? ⟨w.heap.size,0,none⟩=some (.string s):=hW.at_ 0
      have d1:wr.cell? ⟨w.heap.size,1,none⟩=some (.slice A m c'):=hW.at_ 1
      have d2:wr.cell? ⟨w.heap.size+1,0,none⟩=some (.string ⟨#[]⟩):=hZ.at_ 0
      have d3:wr.cell? ⟨w.heap.size+1,1,none⟩=some (.slice none 0 0):=hZ.at_ 1
      have f2:=hZ.free 0
      have f3:=hZ.free 1
      have H1:=Lib.hid h1
      have H2:=Lib.hid h2
      have H3:=Lib.hid h3
      clear h1 h2 h3
      go_wp2_with fail
      refine bodyPost_ret (v:=.agg #[.string s,.slice A m c']) ?_ rfl ?_
      . simp [results,Tryz.results92,go_sem,d2,d3]
      . rw[H1.out,H2.out]
        have h4:=H3.out
        rw[H2.out]at h4
        exact zag (g:=w.heap.size+1) (by omega) h4 (hb0.trans hbl)
theorem zi8(f:UInt8->Bool)(y:List UInt8)(a b:List (UInt8 × Int)):za8 f y (a++ b)=za8 f y a++ za8 f y b:=by unfold za8;rw[List.flatMap_append]
theorem ze9(ws:List (UInt8 × ByteArray))(a b:List (UInt8 × Int)):za9 ws (a++ b)=za9 ws a++ za9 ws b:=by
  induction ws generalizing a b with
  | nil=>rfl
  | cons x ws ih=>
    show za9 ws (za8 _ _ (a++ b))=za9 ws (za8 _ _ a)++ za9 ws (za8 _ _ b)
    rw[zi8,ih]
def ws4:List (UInt8 × ByteArray):=[(38,⟨#[38,97,109,112,59]⟩),(60,⟨#[38,108,116,59]⟩),(62,⟨#[38,103,116,59]⟩),(13,⟨#[38,35,49,51,59]⟩)]
def ws1:List (UInt8 × ByteArray):=[(34,⟨#[38,113,117,111,116,59]⟩)]
theorem zop(x:UInt8 × Int):za9 ws4 [x]=escC false x:=by
  obtain⟨b,o⟩:=x
  unfold escC escB putE
  simp only[ws4,za9,List.foldl_cons,List.foldl_nil,za8,List.flatMap_cons,List.flatMap_nil,List.append_nil]
  by_cases h1:b=38
  . subst h1;rfl
  by_cases h2:b=60
  . subst h2;rfl
  by_cases h3:b=62
  . subst h3;rfl
  by_cases h4:b=13
  . subst h4;rfl
  simp [h1,h2,h3,h4]
theorem zoq(x:UInt8 × Int):za9 ws1 (escC false x)=escC true x:=by
  obtain⟨b,o⟩:=x
  unfold escC escB putE
  by_cases h1:b=38
  . subst h1;rfl
  by_cases h2:b=60
  . subst h2;rfl
  by_cases h3:b=62
  . subst h3;rfl
  by_cases h4:b=13
  . subst h4;rfl
  by_cases h5:b=34
  . subst h5;rfl
  simp [h1,h2,h3,h4,h5,ws1,za9,za8]
theorem swap4(l:List (UInt8 × Int)):za9 ws4 l=escL false l:=by
  induction l with
  | nil=>rfl
  | cons x l ih=>rw[show x::l=[x]++ l from rfl,ze9,zop,ih];rfl
theorem swap1(l:List (UInt8 × Int)):za9 ws1 (escL false l)=escL true l:=by
  induction l with
  | nil=>rfl
  | cons x l ih=>rw[zc0,ze9,zoq,ih];rfl
theorem zi9(ws:List (UInt8 × ByteArray))(m:Nat)(h:∀ x∈ws,x.2.size<=m)(l:List (UInt8 × Int)):(za9 ws l).length<=l.length * (m+1) ^ ws.length:=by
  induction ws generalizing l with
  | nil=>simp [za9]
  | cons x ws ih=>
    have h1:=ih (fun y hy=>h y (List.mem_cons_of_mem _ hy)) (za8 (fun b=>b == x.1) x.2.data.toList l)
    have h2:=ze6 (fun b=>b == x.1) x.2.data.toList l
    have h3:x.2.data.toList.length<=m:=by rw[Array.length_toList];exact h x List.mem_cons_self
    refine Nat.le_trans h1 ?_
    rw[List.length_cons,Nat.pow_succ]
    refine Nat.le_trans (Nat.mul_le_mul_right _ (Nat.le_trans h2 (Nat.mul_le_mul_left _ (Nat.succ_le_succ h3)))) ?_
    rw[Nat.mul_assoc,Nat.mul_comm ((m+1) ^ ws.length) (m+1)]
    exact Nat.le_refl _
theorem zct{W:World}{g:Nat}{t:TypeId}{cs:List Value}(h:Whole W g t cs.toArray):Lies W W.heap.size (some ⟨g,0,none⟩) cs:=by
  intro j u hu
  refine⟨_,rfl,h.lt,?_⟩
  have hadd:(⟨g,0,none⟩:Addr).add j=⟨g,j,none⟩:=by unfold Addr.add;split<;>simp_all
  rw[hadd,h.at_ j]
  simpa using hu
theorem zja(a:LT)(w:World)(ha:a.ok w w.heap.size)(hs:a.s.size<=3000000) :
    Calls Tryz.prog 52 #[.agg #[.string a.s,.slice a.A a.n a.c]] w (zbD (zh (escL false a.ch)) (comp ((escL false a.ch).map (·.2))) w):=by
  have HA:=Lib.hid ha
  have hlen:a.ch.length=a.s.size:=LT.ch_length a
  have HZ:Hid (∀ k,k<=4->(za9 (ws4.take k) a.ch).length<=4294967296):=fun k hk=>by
    have h:=zi9 (ws4.take k) 5 (fun x hx=>by
      have hx:=List.mem_of_mem_take hx
      simp only[ws4,List.mem_cons,List.not_mem_nil,or_false]at hx
      rcases hx with rfl | rfl | rfl | rfl<;>decide) a.ch
    have h2:(ws4.take k).length<=4:=by rw[List.length_take];omega
    have h3:(5+1) ^ (ws4.take k).length<=(5+1) ^ 4:=Nat.pow_le_pow_right (by omega) h2
    refine Nat.le_trans h (Nat.le_trans (Nat.mul_le_mul (by rw[hlen];exact hs) h3) (by decide))
  clear ha hlen
  go_enter Tryz.func52,Tryz.ntmps52
  go_wp2_with fail
  generalize hw3:((w.alloc (.cells #[.string a.s,.slice a.A a.n a.c] 24)).alloc (.cells #[.string ⟨#[]⟩,.slice none 0 0] 24)).alloc (.cells #[.int .u8 38,.string ⟨#[38,97,109,112,59]⟩,.int .u8 60,.string ⟨#[38,108,116,59]⟩,.int .u8 62,.string ⟨#[38,103,116,59]⟩,.int .u8 13,.string ⟨#[38,35,49,51,59]⟩] 123)=w3
  have y1:Whole w3 (w.heap.size+1) 24 #[.string ⟨#[]⟩,.slice none 0 0]:=by
    rw[<-hw3]
    have h:=(Whole.made (w.alloc (.cells #[.string a.s,.slice a.A a.n a.c] 24)) 24 #[.string ⟨#[]⟩,.slice none 0 0]).alloc (.cells #[.int .u8 38,.string ⟨#[38,97,109,112,59]⟩,.int .u8 60,.string ⟨#[38,108,116,59]⟩,.int .u8 62,.string ⟨#[38,103,116,59]⟩,.int .u8 13,.string ⟨#[38,35,49,51,59]⟩] 123)
    simp only[World.size_alloc]at h
    exact h
  have y2:Whole w3 (w.heap.size+1+1) 123 (zbV ws4).toArray:=by
    rw[<-hw3]
    have h:=Whole.made ((w.alloc (.cells #[.string a.s,.slice a.A a.n a.c] 24)).alloc (.cells #[.string ⟨#[]⟩,.slice none 0 0] 24)) 123 (zbV ws4).toArray
    simp only[World.size_alloc]at h
    exact h
  have hz3:w3.heap.size=w.heap.size+3:=by rw[<-hw3];simp
  have hb3:Below w.heap.size w w3:=by rw[<-hw3];exact(((Below.refl _ _).alloc (Nat.le_refl _) _).alloc (by simp) _).alloc (by simp;omega) _
  clear hw3
  refine(zg9 a ws4 (some ⟨w.heap.size+1+1,0,none⟩) 4 4 w3 (HA.out.next hb3 (Nat.le_refl _)) (zct y2) rfl (by decide) (by decide) (fun x hx=>by
    simp only[ws4,List.mem_cons,List.not_mem_nil,or_false]at hx
    rcases hx with rfl | rfl | rfl | rfl<;>decide) HZ.out).mono ?_
  rw[swap4]
  generalize hT:escL false a.ch=T at *
  generalize hq:comp (T.map (·.2))=q at *
  generalize hst:zh T=st at *
  have HT:=Lib.hid hT
  have HQ:=Lib.hid hq
  have HS:=Lib.hid hst
  clear hT hq hst
  rintro e w4 ⟨v,rfl,hown,hb4⟩
  obtain⟨A2,c2,rfl,_,_,_⟩:=zg hown
  have hW:=y1.below hb4 y1.lt
  have f0:=hW.free 0
  have f1:=hW.free 1
  have d0:w4.cell? ⟨w.heap.size+1,0,none⟩=some (.string ⟨#[]⟩):=hW.at_ 0
  have d1:w4.cell? ⟨w.heap.size+1,1,none⟩=some (.slice none 0 0):=hW.at_ 1
  have HO:=Lib.hid hown
  clear hown
  go_wp2
  refine bodyPost_ret (v:=.agg #[.string st,.slice A2 q.length c2]) ?_ rfl ?_
  . simp [results,Tryz.results52,go_sem,d0,d1]
  . rw[HT.out,HQ.out,HS.out]
    exact zag (g:=w.heap.size+1) (by omega) (zD HO.out (by omega)) (zb hb3 (Nat.le_refl _) hb4)
theorem zor(a:LT)(w:World)(ha:a.ok w w.heap.size)(hs:a.s.size<=3000000) :
    Calls Tryz.prog 179 #[.agg #[.string a.s,.slice a.A a.n a.c]] w (zbD (zh (escL true a.ch)) (comp ((escL true a.ch).map (·.2))) w):=by
  have HA:=Lib.hid ha
  have hlen:a.ch.length=a.s.size:=LT.ch_length a
  have hle:=(zdS false a.ch).2
  have hLs:(escL false a.ch).length<=18000000:=by omega
  have HI:Hid (InR (escL false a.ch)):=a.ch_in.esc
  have HSW:Hid (za9 ws1 (escL false a.ch)=escL true a.ch):=swap1 _
  clear ha hle
  go_enter Tryz.func179,Tryz.ntmps179
  go_wp2_with fail
  generalize hw3:(w.alloc (.cells #[.string a.s,.slice a.A a.n a.c] 24)).alloc (.cells #[.string ⟨#[]⟩,.slice none 0 0] 24)=w3
  have y1:Whole w3 (w.heap.size+1) 24 #[.string ⟨#[]⟩,.slice none 0 0]:=by
    rw[<-hw3]
    have h:=Whole.made (w.alloc (.cells #[.string a.s,.slice a.A a.n a.c] 24)) 24 #[.string ⟨#[]⟩,.slice none 0 0]
    simp only[World.size_alloc]at h
    exact h
  have hz3:w3.heap.size=w.heap.size+2:=by rw[<-hw3];simp
  have hb3:Below w.heap.size w w3:=by rw[<-hw3];exact((Below.refl _ _).alloc (Nat.le_refl _) _).alloc (by simp) _
  clear hw3
  refine(zja a w3 (HA.out.next hb3 (Nat.le_refl _)) hs).mono ?_
  generalize hL:escL false a.ch=L at *
  have hrn:=zep L
  have hqr:(comp (L.map (·.2))).length=runN L:=rfl
  rintro e w4 ⟨v,rfl,hown,hb4⟩
  obtain⟨A2,c2,rfl,_,_,_⟩:=zg hown
  rw[hqr]at hown ⊢
  have hlie:=Lies.own hown
  have HLI:=Lib.hid hlie
  clear hown hqr hlie
  have hy4:=y1.below hb4 y1.lt
  have hz4:=hb4.size
  generalize hq:runN L=q at *
  generalize hst:zh L=st at *
  have HQ:=Lib.hid hq
  have HS:=Lib.hid hst
  clear hq hst
  go_wp2_with fail
  generalize hw5:w4.alloc (.cells #[.int .u8 34,.string ⟨#[38,113,117,111,116,59]⟩] 123)=w5
  have y2:Whole w5 w4.heap.size 123 (zbV ws1).toArray:=by
    rw[<-hw5]
    exact Whole.made w4 123 (zbV ws1).toArray
  have hb5:Below w4.heap.size w4 w5:=by rw[<-hw5];exact(Below.refl _ _).alloc (Nat.le_refl _) _
  have hz5:w5.heap.size=w4.heap.size+1:=by rw[<-hw5];simp
  have hy5:=hy4.below hb5 hy4.lt
  clear hw5
  have hP:=zg9 (zbK L A2 c2) ws1 (some ⟨w4.heap.size,0,none⟩) 1 1 w5 (zcK c2 (HLI.out.next hb5 (Nat.le_refl _)) (by omega)) (zct y2) rfl (by decide) (by decide) (fun x hx=>by
    simp only[ws1,List.mem_cons,List.not_mem_nil,or_false]at hx
    subst hx
    decide) (fun k hk=>by
      rw[zav HI.out]
      have h:=zi9 (ws1.take k) 6 (fun x hx=>by
        have hx:=List.mem_of_mem_take hx
        simp only[ws1,List.mem_cons,List.not_mem_nil,or_false]at hx
        subst hx
        decide) L
      have h2:(ws1.take k).length<=1:=by rw[List.length_take];omega
      have h3:(6+1) ^ (ws1.take k).length<=(6+1) ^ 1:=Nat.pow_le_pow_right (by omega) h2
      refine Nat.le_trans h (Nat.le_trans (Nat.mul_le_mul hLs h3) (by decide)))
  rw[zav HI.out,HSW.out]at hP
  have HP:Hid (Calls Tryz.prog 92 #[.agg #[.string st,.slice A2 q c2],.slice (some ⟨w4.heap.size,0,none⟩) 1 1] w5 (zbD (zh (escL true a.ch)) (comp ((escL true a.ch).map (·.2))) w5)):=by
    rw[<-HS.out,<-HQ.out]
    exact hP
  clear hP
  refine HP.out.mono ?_
  generalize hT:escL true a.ch=T at *
  generalize hq:comp (T.map (·.2))=r at *
  generalize hst:zh T=sv at *
  have HT:=Lib.hid hT
  have HR:=Lib.hid hq
  have HV:=Lib.hid hst
  clear hT hq hst
  rintro e w6 ⟨v,rfl,hown,hb6⟩
  obtain⟨A3,c3,rfl,_,_,_⟩:=zg hown
  have hW:=hy5.below hb6 hy5.lt
  have f0:=hW.free 0
  have f1:=hW.free 1
  have d0:w6.cell? ⟨w.heap.size+1,0,none⟩=some (.string ⟨#[]⟩):=hW.at_ 0
  have d1:w6.cell? ⟨w.heap.size+1,1,none⟩=some (.slice none 0 0):=hW.at_ 1
  have HO:=Lib.hid hown
  clear hown
  go_wp2
  refine bodyPost_ret (v:=.agg #[.string sv,.slice A3 r.length c3]) ?_ rfl ?_
  . simp [results,Tryz.results179,go_sem,d0,d1]
  . rw[HT.out,HR.out,HV.out]
    exact zag (g:=w.heap.size+1) (by omega) (zD HO.out (by omega)) (zb (zb (zb hb3 (Nat.le_refl _) hb4) (Nat.le_refl _) hb5) (Nat.le_refl _) hb6)
def quoL(l:List (UInt8 × Int)):List (UInt8 × Int):=([(34,0)]++ escL true l)++ [(34,0)]
def zcu(n l:List (UInt8 × Int)):List (UInt8 × Int):=([(32,0)]++ n)++ ([(61,0)]++ quoL l)
theorem InR.one(b:UInt8):InR [(b,0)]:=by
  intro o ho
  simp only[List.map_cons,List.map_nil,List.mem_cons,List.not_mem_nil,or_false]at ho
  subst ho
  decide
theorem InR.quo{l:List (UInt8 × Int)}(h:InR l):InR (quoL l):=((InR.one 34).append h.esc).append (InR.one 34)
theorem InR.pair{n l:List (UInt8 × Int)}(hn:InR n)(h:InR l):InR (zcu n l):=((InR.one 32).append hn).append ((InR.one 61).append h.quo)
theorem zlJ(l:List (UInt8 × Int)):(quoL l).length<=6 * l.length+2:=by
  have:=(zdS true l).2
  unfold quoL
  simp only[List.length_append,List.length_cons,List.length_nil]
  omega
theorem zjb(n l:List (UInt8 × Int)):(zcu n l).length<=n.length+6 * l.length+4:=by
  have:=zlJ l
  unfold zcu
  simp only[List.length_append,List.length_cons,List.length_nil]
  omega
theorem zos(b:UInt8)(w:World):Calls Tryz.prog 24 #[.string ⟨#[b]⟩,.int .i64 0] w (zbD ⟨#[b]⟩ (comp ([((b,0):UInt8 × Int)].map (·.2))) w):=by
  have h:=zlj ⟨#[b]⟩ 0 w (by show(1:Nat)<=_;omega)
  have e:List.replicate (ByteArray.mk #[b]).size (zaq 0)=[((b,0):UInt8 × Int)].map (·.2):=by
    show List.replicate 1 (zaq 0)=[0]
    decide
  rw[e]at h
  exact h
structure QK (w:World) (b1 b2 r:Nat) (c1 c2:Array Value) (w':World):Prop where
  h1:Whole w' b1 24 c1
  h2:Whole w' b2 24 c2
  bel:Below w.heap.size w w'
  n1:b1≠r
  n2:b2≠r
  nr:w.heap.size<=r
theorem QK.keep{w w' w'':World}{b1 b2 r:Nat}{c1 c2:Array Value}(h:QK w b1 b2 r c1 c2 w')(hb:Below w'.heap.size w' w''):QK w b1 b2 r c1 c2 w'':=
  ⟨h.h1.below hb h.h1.lt,h.h2.below hb h.h2.lt,zb h.bel (Nat.le_refl _) hb,h.n1,h.n2,h.nr⟩
theorem QK.put{w w':World}{b1 b2 r:Nat}{c1 c2:Array Value}(h:QK w b1 b2 r c1 c2 w')(u v:Value):QK w b1 b2 r c1 c2 ((w'.setCell ⟨r,0,none⟩ u).setCell ⟨r,1,none⟩ v):=
  ⟨(h.h1.far _ h.n1 _).far _ h.n1 _,(h.h2.far _ h.n2 _).far _ h.n2 _,(h.bel.setCell h.nr _).setCell h.nr _,h.n1,h.n2,h.nr⟩
theorem zmC(a:LT)(w:World)(ha:a.ok w w.heap.size)(hs:a.s.size<=3000000) :
    Calls Tryz.prog 162 #[.agg #[.string a.s,.slice a.A a.n a.c]] w (zbD (zh (quoL a.ch)) (comp ((quoL a.ch).map (·.2))) w):=by
  have HA:=Lib.hid ha
  have hlen:a.ch.length=a.s.size:=LT.ch_length a
  have hel:=(zdS true a.ch).2
  have hel2:(escL true a.ch).length<=18000000:=by omega
  have HI:Hid (InR (escL true a.ch)):=a.ch_in.esc
  clear ha hel
  go_enter Tryz.func162,Tryz.ntmps162
  go_wp2_with fail
  generalize hw0:(w.alloc (.cells #[.string a.s,.slice a.A a.n a.c] 24)).alloc (.cells #[.string ⟨#[]⟩,.slice none 0 0] 24)=w0
  have y0:Whole w0 w.heap.size 24 #[.string a.s,.slice a.A a.n a.c]:=by rw[<-hw0];exact(Whole.made w _ _).alloc _
  have y1:Whole w0 (w.heap.size+1) 24 #[.string ⟨#[]⟩,.slice none 0 0]:=by
    rw[<-hw0]
    have h:=Whole.made (w.alloc (.cells #[.string a.s,.slice a.A a.n a.c] 24)) 24 #[.string ⟨#[]⟩,.slice none 0 0]
    simp only[World.size_alloc]at h
    exact h
  have hz0:w0.heap.size=w.heap.size+2:=by rw[<-hw0];simp
  have hb0:Below w.heap.size w w0:=by rw[<-hw0];exact((Below.refl _ _).alloc (Nat.le_refl _) _).alloc (by simp) _
  clear hw0
  refine(zos 34 w0).mono ?_
  generalize hq1:comp ([((34,0):UInt8 × Int)].map (·.2))=q1
  rintro e w1 ⟨v,rfl,ho1,hb1⟩
  obtain⟨A1,c1,rfl,_,_,_⟩:=zg ho1
  have hz1:=hb1.size
  go_wp2_with fail
  generalize hw2:w1.alloc (.cells #[.string ⟨#[34]⟩,.slice A1 q1.length c1] 24)=w2
  have z0:Whole w2 w.heap.size 24 #[.string a.s,.slice a.A a.n a.c]:=by rw[<-hw2];exact(y0.below hb1 y0.lt).alloc _
  have z1:Whole w2 (w.heap.size+1) 24 #[.string ⟨#[]⟩,.slice none 0 0]:=by rw[<-hw2];exact(y1.below hb1 y1.lt).alloc _
  have z2:Whole w2 w1.heap.size 24 #[.string ⟨#[34]⟩,.slice A1 q1.length c1]:=by rw[<-hw2];exact Whole.made w1 _ _
  have hb2:Below w.heap.size w w2:=by rw[<-hw2];exact zb (zb hb0 (Nat.le_refl _) hb1) (Nat.le_refl _) ((Below.refl _ _).alloc (Nat.le_refl _) _)
  have hl2:Lies w2 w2.heap.size A1 (zd q1):=by rw[<-hw2];exact(Lies.own ho1).next ((Below.refl _ _).alloc (Nat.le_refl _) _) (Nat.le_refl _)
  have HL2:=Lib.hid hl2
  have HB2:=Lib.hid hb2
  have HK0:Hid (QK w w.heap.size w1.heap.size (w.heap.size+1) #[.string a.s,.slice a.A a.n a.c] #[.string ⟨#[34]⟩,.slice A1 q1.length c1] w2):=⟨z0,z2,hb2,by omega,by omega,by omega⟩
  have HKS:Hid (∀ w',QK w w.heap.size w1.heap.size (w.heap.size+1) #[.string a.s,.slice a.A a.n a.c] #[.string ⟨#[34]⟩,.slice A1 q1.length c1] w'->(w'.cell? ⟨w.heap.size,0,none⟩=some (.string a.s)/\w'.cell? ⟨w.heap.size,1,none⟩=some (.slice a.A a.n a.c)/\w'.cell? ⟨w1.heap.size,0,none⟩=some (.string ⟨#[34]⟩)/\w'.cell? ⟨w1.heap.size,1,none⟩=some (.slice A1 q1.length c1)/\QK w w.heap.size w1.heap.size (w.heap.size+1) #[.string a.s,.slice a.A a.n a.c] #[.string ⟨#[34]⟩,.slice A1 q1.length c1] w')):=fun w' h=>
    ⟨h.h1.at_ 0,h.h1.at_ 1,h.h2.at_ 0,h.h2.at_ 1,h⟩
  have HVA:Hid (∀ w',Below w2.heap.size w2 w'->Calls Tryz.prog 179 #[.agg #[.string a.s,.slice a.A a.n a.c]] w' (zn0 (escL true a.ch) w')):=fun w' hb=>(zor a w' ((HA.out.next HB2.out (Nat.le_refl _)).next hb (Nat.le_refl _)) hs).mono fun e w'' h=>ziV h
  have HCA:Hid (∀ (w':World) (g:Nat) (D:Option Addr) (k:Nat),Below w2.heap.size w2 w'->Lies w' w'.heap.size D (zd (comp ((escL true a.ch).map (·.2))))->Whole w' g 24 (List.toArray [.string ⟨#[34]⟩,.slice A1 q1.length c1,.string (zh (escL true a.ch)),.slice D (runN (escL true a.ch)) k,.string ⟨#[34]⟩,.slice A1 q1.length c1])->Calls Tryz.prog 54 #[.slice (some ⟨g,0,none⟩) 3 3] w' (zbD (zh (quoL a.ch)) (comp ((quoL a.ch).map (·.2))) w')):=fun w' g D k hb hD hW=>by
    have hq:(zbK [((34,0):UInt8 × Int)] A1 c1).ok w' w'.heap.size:=zcK c1 (by rw[hq1];exact HL2.out.next hb (Nat.le_refl _)) (by simp)
    have hn:q1.length=runN [((34,0):UInt8 × Int)]:=by rw[<-hq1];rfl
    rw[hn]at hW
    have h:=zd3 [zbK [(34,0)] A1 c1,zbK (escL true a.ch) D k,zbK [(34,0)] A1 c1] (some ⟨g,0,none⟩) 3 3 w' (zct hW) rfl (by omega) (fun t ht=>by
      simp only[List.mem_cons,List.not_mem_nil,or_false]at ht
      rcases ht with rfl | rfl | rfl
      . exact hq
      . exact zcK k hD (by omega)
      . exact hq) (by
      simp only[zS,List.flatMap_cons,List.flatMap_nil,List.length_append,LT.ch_length,List.length_nil]
      show(zh [((34,0):UInt8 × Int)]).size+((zh (escL true a.ch)).size+((zh [((34,0):UInt8 × Int)]).size+0))<=_
      rw[zA,zA]
      simp only[List.length_cons,List.length_nil]
      omega)
    have e:zS [zbK [(34,0)] A1 c1,zbK (escL true a.ch) D k,zbK [(34,0)] A1 c1]=quoL a.ch:=by
      simp only[zS,List.flatMap_cons,List.flatMap_nil,List.append_nil,zav HI.out,zav (InR.one 34)]
      unfold quoL
      rw[List.append_assoc]
    rw[e]at h
    exact h
  clear hl2 hb2 ho1 y0 y1 hb1 hb0 hel2
  obtain⟨d0,d1,d2,d3,_⟩:=HKS.out _ HK0.out
  clear hw2 z0 z2
  generalize hT:escL true a.ch=T at *
  generalize hrn:runN T=rn at *
  generalize htx:zh T=tx at *
  have HT:=Lib.hid hT
  have HRN:=Lib.hid hrn
  have HTX:=Lib.hid htx
  clear hT hrn htx
  go_region_held3 (fun w'=>w'.cell? ⟨w.heap.size,0,none⟩=some (.string a.s)/\w'.cell? ⟨w.heap.size,1,none⟩=some (.slice a.A a.n a.c)/\w'.cell? ⟨w1.heap.size,0,none⟩=some (.string ⟨#[34]⟩)/\w'.cell? ⟨w1.heap.size,1,none⟩=some (.slice A1 q1.length c1)/\QK w w.heap.size w1.heap.size (w.heap.size+1) #[.string a.s,.slice a.A a.n a.c] #[.string ⟨#[34]⟩,.slice A1 q1.length c1] w')
    (first
      | exact HKS.out _ (HK0.out.keep (Below.drew (Below.refl _ _)))
      | exact HKS.out _ hK
      | (go_split_ands;exact HKS.out _ (by assumption))
      | (go_split_ands;exact HKS.out _ (QK.keep (by assumption) ((Below.refl _ _).alloc (Nat.le_refl _) _)))
      | (go_split_ands;exact HKS.out _ (QK.put (by assumption) _ _)))
    (first
      | (go_at_call 179;refine(HVA.out _ ((Below.refl _ _).drew)).mono ?_;rintro e w3 ⟨D3,k3,rfl,hd3,hb3⟩;rw[HRN.out,HTX.out];have HD3:=Lib.hid hd3;have HB3:=Lib.hid hb3;have hK:QK w w.heap.size w1.heap.size (w.heap.size+1) #[.string a.s,.slice a.A a.n a.c] #[.string ⟨#[34]⟩,.slice A1 q1.length c1] w3:=(by go_split_ands;exact QK.keep (by assumption) hb3);clear hd3 hb3)
      | (go_at_call 54;refine(HCA.out _ _ D3 k3 ?_ (HD3.out.next ((Below.refl _ _).alloc (Nat.le_refl _) _) (Nat.le_refl _)) (Whole.made _ _ _)).mono ?_;(exact zb (zb (Below.drew (Below.refl _ _)) (Nat.le_refl _) HB3.out) (Nat.le_refl _) ((Below.refl _ _).alloc (Nat.le_refl _) _));rintro e w4 ⟨v4,rfl,ho4,hb4⟩;obtain⟨A4,c4,rfl,_,_,_⟩:=zg ho4;have HO4:=Lib.hid ho4;have HB4:=Lib.hid hb4;clear ho4 hb4;have hW4:Whole w4 (w.heap.size+1) 24 #[.string ⟨#[]⟩,.slice none 0 0]:=(((z1.drew.below HB3.out z1.lt).alloc _).below HB4.out (Whole.lt ((z1.drew.below HB3.out z1.lt).alloc _)));have r0:w4.cell? ⟨w.heap.size+1,0,none⟩=some (.string ⟨#[]⟩):=hW4.at_ 0;have r1:w4.cell? ⟨w.heap.size+1,1,none⟩=some (.slice none 0 0):=hW4.at_ 1;have f0:=hW4.free 0;have f1:=hW4.free 1;have hK:QK w w.heap.size w1.heap.size (w.heap.size+1) #[.string a.s,.slice a.A a.n a.c] #[.string ⟨#[34]⟩,.slice A1 q1.length c1] w4:=(by go_split_ands;exact QK.keep (by assumption) HB4.out)))
  all_goals
    have hz3:=HB3.out.size
    have hz2:=z1.lt
    have hbF:=hK.bel
    have hz5:w2.heap.size<=w3.heap.size:=hz3
    go_wp2
    refine bodyPost_ret (v:=.agg #[.string (zh (quoL a.ch)),.slice A4 (comp ((quoL a.ch).map (·.2))).length c4]) ?_ rfl ?_
    . simp [results,Tryz.results162,go_sem,r0,r1]
    . exact zag (g:=w.heap.size+1) (by omega) (zD HO4.out (by simp;omega)) hbF
theorem zq7(b a:LT)(w:World)(hb:b.ok w w.heap.size)(ha:a.ok w w.heap.size)(hs:a.s.size<=3000000)(hsb:b.s.size<=3000000) :
    Calls Tryz.prog 132 #[.agg #[.string b.s,.slice b.A b.n b.c],.agg #[.string a.s,.slice a.A a.n a.c]] w (zbD (zh (zcu b.ch a.ch)) (comp ((zcu b.ch a.ch).map (·.2))) w):=by
  have HA:=Lib.hid ha
  have HB:=Lib.hid hb
  have hlen:a.ch.length=a.s.size:=LT.ch_length a
  have hql:=zlJ a.ch
  have hql2:(quoL a.ch).length<=18000002:=by omega
  have HI:Hid (InR (quoL a.ch)):=a.ch_in.quo
  clear ha hb hql hlen
  go_enter Tryz.func132,Tryz.ntmps132
  go_wp2_with fail
  generalize hw0:((w.alloc (.cells #[.string b.s,.slice b.A b.n b.c] 24)).alloc (.cells #[.string a.s,.slice a.A a.n a.c] 24)).alloc (.cells #[.string ⟨#[]⟩,.slice none 0 0] 24)=w2
  have z0:Whole w2 w.heap.size 24 #[.string b.s,.slice b.A b.n b.c]:=by rw[<-hw0];exact((Whole.made w _ _).alloc _).alloc _
  have z2:Whole w2 (w.heap.size+1) 24 #[.string a.s,.slice a.A a.n a.c]:=by
    rw[<-hw0]
    have h:=(Whole.made (w.alloc (.cells #[.string b.s,.slice b.A b.n b.c] 24)) 24 #[.string a.s,.slice a.A a.n a.c]).alloc (.cells #[.string ⟨#[]⟩,.slice none 0 0] 24)
    simp only[World.size_alloc]at h
    exact h
  have z1:Whole w2 (w.heap.size+1+1) 24 #[.string ⟨#[]⟩,.slice none 0 0]:=by
    rw[<-hw0]
    have h:=Whole.made ((w.alloc (.cells #[.string b.s,.slice b.A b.n b.c] 24)).alloc (.cells #[.string a.s,.slice a.A a.n a.c] 24)) 24 #[.string ⟨#[]⟩,.slice none 0 0]
    simp only[World.size_alloc]at h
    exact h
  have hb2:Below w.heap.size w w2:=by rw[<-hw0];exact(((Below.refl _ _).alloc (Nat.le_refl _) _).alloc (by simp) _).alloc (by simp;omega) _
  have HB2:=Lib.hid hb2
  have HK0:Hid (QK w w.heap.size (w.heap.size+1) (w.heap.size+1+1) #[.string b.s,.slice b.A b.n b.c] #[.string a.s,.slice a.A a.n a.c] w2):=⟨z0,z2,hb2,by omega,by omega,by omega⟩
  have HKS:Hid (∀ w',QK w w.heap.size (w.heap.size+1) (w.heap.size+1+1) #[.string b.s,.slice b.A b.n b.c] #[.string a.s,.slice a.A a.n a.c] w'->(w'.cell? ⟨w.heap.size,0,none⟩=some (.string b.s)/\w'.cell? ⟨w.heap.size,1,none⟩=some (.slice b.A b.n b.c)/\w'.cell? ⟨w.heap.size+1,0,none⟩=some (.string a.s)/\w'.cell? ⟨w.heap.size+1,1,none⟩=some (.slice a.A a.n a.c)/\QK w w.heap.size (w.heap.size+1) (w.heap.size+1+1) #[.string b.s,.slice b.A b.n b.c] #[.string a.s,.slice a.A a.n a.c] w')):=fun w' h=>
    ⟨h.h1.at_ 0,h.h1.at_ 1,h.h2.at_ 0,h.h2.at_ 1,h⟩
  have HQA:Hid (∀ w',Below w2.heap.size w2 w'->Calls Tryz.prog 162 #[.agg #[.string a.s,.slice a.A a.n a.c]] w' (zn0 (quoL a.ch) w')):=fun w' hb=>(zmC a w' ((HA.out.next HB2.out (Nat.le_refl _)).next hb (Nat.le_refl _)) hs).mono fun e w'' h=>ziV h
  obtain⟨n32,hn32⟩:∃ n,n=runN [((32,0):UInt8 × Int)]:=⟨_,rfl⟩
  obtain⟨n61,hn61⟩:∃ n,n=runN [((61,0):UInt8 × Int)]:=⟨_,rfl⟩
  have HO32:Hid (∀ w',Calls Tryz.prog 24 #[.string ⟨#[32]⟩,.int .i64 0] w' fun e w''=>∃ D k,e=.returned (.agg #[.string ⟨#[32]⟩,.slice D n32 k])/\Lies w'' w''.heap.size D (zd (comp ([((32,0):UInt8 × Int)].map (·.2))))/\Below w'.heap.size w' w''):=fun w'=>(zos 32 w').mono fun e w'' h=>by
    obtain⟨v,rfl,ho,hb⟩:=h
    obtain⟨D,k,rfl,_,_,_⟩:=zg ho
    exact⟨D,k,by rw[hn32];rfl,Lies.own ho,hb⟩
  have HO61:Hid (∀ w',Calls Tryz.prog 24 #[.string ⟨#[61]⟩,.int .i64 0] w' fun e w''=>∃ D k,e=.returned (.agg #[.string ⟨#[61]⟩,.slice D n61 k])/\Lies w'' w''.heap.size D (zd (comp ([((61,0):UInt8 × Int)].map (·.2))))/\Below w'.heap.size w' w''):=fun w'=>(zos 61 w').mono fun e w'' h=>by
    obtain⟨v,rfl,ho,hb⟩:=h
    obtain⟨D,k,rfl,_,_,_⟩:=zg ho
    exact⟨D,k,by rw[hn61];rfl,Lies.own ho,hb⟩
  have HCA:Hid (∀ (w':World) (g:Nat) (D1 D2 D:Option Addr) (k1 k2 k:Nat),Below w2.heap.size w2 w'->Lies w' w'.heap.size D1 (zd (comp ([((32,0):UInt8 × Int)].map (·.2))))->Lies w' w'.heap.size D2 (zd (comp ([((61,0):UInt8 × Int)].map (·.2))))->Lies w' w'.heap.size D (zd (comp ((quoL a.ch).map (·.2))))->Whole w' g 24 (List.toArray [.string ⟨#[32]⟩,.slice D1 n32 k1,.string b.s,.slice b.A b.n b.c,.string ⟨#[61]⟩,.slice D2 n61 k2,.string (zh (quoL a.ch)),.slice D (runN (quoL a.ch)) k])->Calls Tryz.prog 54 #[.slice (some ⟨g,0,none⟩) 4 4] w' (zbD (zh (zcu b.ch a.ch)) (comp ((zcu b.ch a.ch).map (·.2))) w')):=fun w' g D1 D2 D k1 k2 k hb h1 h2 hD hW=>by
    rw[hn32,hn61]at hW
    have h:=zd3 [zbK [(32,0)] D1 k1,b,zbK [(61,0)] D2 k2,zbK (quoL a.ch) D k] (some ⟨g,0,none⟩) 4 4 w' (zct hW) rfl (by omega) (fun t ht=>by
      simp only[List.mem_cons,List.not_mem_nil,or_false]at ht
      rcases ht with rfl | rfl | rfl | rfl
      . exact zcK k1 h1 (by simp)
      . exact(HB.out.next HB2.out (Nat.le_refl _)).next hb (Nat.le_refl _)
      . exact zcK k2 h2 (by simp)
      . exact zcK k hD (by omega)) (by
      simp only[zS,List.flatMap_cons,List.flatMap_nil,List.length_append,LT.ch_length,List.length_nil]
      show(zh [((32,0):UInt8 × Int)]).size+(b.s.size+((zh [((61,0):UInt8 × Int)]).size+((zh (quoL a.ch)).size+0)))<=_
      rw[zA,zA,zA]
      simp only[List.length_cons,List.length_nil]
      omega)
    have e:zS [zbK [(32,0)] D1 k1,b,zbK [(61,0)] D2 k2,zbK (quoL a.ch) D k]=zcu b.ch a.ch:=by
      simp only[zS,List.flatMap_cons,List.flatMap_nil,List.append_nil,zav HI.out,zav (InR.one 32),zav (InR.one 61)]
      unfold zcu
      rw[List.append_assoc]
    rw[e]at h
    exact h
  clear hb2 hql2 hn32 hn61
  obtain⟨d0,d1,d2,d3,_⟩:=HKS.out _ HK0.out
  clear hw0 z0 z2
  generalize hT:quoL a.ch=T at *
  generalize hrn:runN T=rn at *
  generalize htx:zh T=tx at *
  have HT:=Lib.hid hT
  have HRN:=Lib.hid hrn
  have HTX:=Lib.hid htx
  clear hT hrn htx
  go_region_held3 (fun w'=>w'.cell? ⟨w.heap.size,0,none⟩=some (.string b.s)/\w'.cell? ⟨w.heap.size,1,none⟩=some (.slice b.A b.n b.c)/\w'.cell? ⟨w.heap.size+1,0,none⟩=some (.string a.s)/\w'.cell? ⟨w.heap.size+1,1,none⟩=some (.slice a.A a.n a.c)/\QK w w.heap.size (w.heap.size+1) (w.heap.size+1+1) #[.string b.s,.slice b.A b.n b.c] #[.string a.s,.slice a.A a.n a.c] w')
    (first
      | exact HKS.out _ (HK0.out.keep (Below.drew (Below.refl _ _)))
      | exact HKS.out _ hK
      | (go_split_ands;exact HKS.out _ (by assumption))
      | (go_split_ands;exact HKS.out _ (QK.keep (by assumption) ((Below.refl _ _).alloc (Nat.le_refl _) _)))
      | (go_split_ands;exact HKS.out _ (QK.put (by assumption) _ _)))
    (first
      | (go_at_call_of 24 (ByteArray.mk #[32]);refine(HO32.out _).mono ?_;rintro e w3 ⟨D1,k1,rfl,hd3,hb3⟩;have HD1:=Lib.hid hd3;have HB3:=Lib.hid (zb (Below.drew (Below.refl w2.heap.size w2)) (Nat.le_refl _) hb3);have hK:QK w w.heap.size (w.heap.size+1) (w.heap.size+1+1) #[.string b.s,.slice b.A b.n b.c] #[.string a.s,.slice a.A a.n a.c] w3:=(by go_split_ands;exact QK.keep (by assumption) hb3);clear hd3 hb3)
      | (go_at_call_of 24 (ByteArray.mk #[61]);refine(HO61.out _).mono ?_;rintro e w4 ⟨D2,k2,rfl,hd4,hb4⟩;have HD2:=Lib.hid hd4;have HE1:=Lib.hid (HD1.out.next hb4 (Nat.le_refl _));have HB4:=Lib.hid (zb HB3.out (Nat.le_refl _) hb4);have hK:QK w w.heap.size (w.heap.size+1) (w.heap.size+1+1) #[.string b.s,.slice b.A b.n b.c] #[.string a.s,.slice a.A a.n a.c] w4:=(by go_split_ands;exact QK.keep (by assumption) hb4);clear hd4 hb4)
      | (go_at_call 162;refine(HQA.out _ HB4.out).mono ?_;rintro e w5 ⟨D5,k5,rfl,hd5,hb5⟩;rw[HRN.out,HTX.out];have HD5:=Lib.hid hd5;have HF1:=Lib.hid (HE1.out.next hb5 (Nat.le_refl _));have HF2:=Lib.hid (HD2.out.next hb5 (Nat.le_refl _));have HB5:=Lib.hid (zb HB4.out (Nat.le_refl _) hb5);have hK:QK w w.heap.size (w.heap.size+1) (w.heap.size+1+1) #[.string b.s,.slice b.A b.n b.c] #[.string a.s,.slice a.A a.n a.c] w5:=(by go_split_ands;exact QK.keep (by assumption) hb5);clear hd5 hb5)
      | (go_at_call 54;refine(HCA.out _ _ D1 D2 D5 k1 k2 k5 (zb HB5.out (Nat.le_refl _) ((Below.refl _ _).alloc (Nat.le_refl _) _)) (HF1.out.next ((Below.refl _ _).alloc (Nat.le_refl _) _) (Nat.le_refl _)) (HF2.out.next ((Below.refl _ _).alloc (Nat.le_refl _) _) (Nat.le_refl _)) (HD5.out.next ((Below.refl _ _).alloc (Nat.le_refl _) _) (Nat.le_refl _)) (Whole.made _ _ _)).mono ?_;rintro e w6 ⟨v6,rfl,ho6,hb6⟩;obtain⟨A6,c6,rfl,_,_,_⟩:=zg ho6;have HO6:=Lib.hid ho6;have HB6:=Lib.hid hb6;clear ho6 hb6;have hW6:Whole w6 (w.heap.size+1+1) 24 #[.string ⟨#[]⟩,.slice none 0 0]:=(((z1.below HB5.out z1.lt).alloc _).below HB6.out (Whole.lt ((z1.below HB5.out z1.lt).alloc _)));have r0:w6.cell? ⟨w.heap.size+1+1,0,none⟩=some (.string ⟨#[]⟩):=hW6.at_ 0;have r1:w6.cell? ⟨w.heap.size+1+1,1,none⟩=some (.slice none 0 0):=hW6.at_ 1;have f0:=hW6.free 0;have f1:=hW6.free 1;have hK:QK w w.heap.size (w.heap.size+1) (w.heap.size+1+1) #[.string b.s,.slice b.A b.n b.c] #[.string a.s,.slice a.A a.n a.c] w6:=(by go_split_ands;exact QK.keep (by assumption) HB6.out)))
  all_goals
    have hz3:=HB5.out.size
    have hz2:=z1.lt
    have hbF:=hK.bel
    go_wp2
    refine bodyPost_ret (v:=.agg #[.string (zh (zcu b.ch a.ch)),.slice A6 (comp ((zcu b.ch a.ch).map (·.2))).length c6]) ?_ rfl ?_
    . simp [results,Tryz.results132,go_sem,r0,r1]
    . exact zag (g:=w.heap.size+1+1) (by omega) (zD HO6.out (by simp;omega)) hbF
def zot(q:PA)(w:World)(e:Ending)(w':World):Prop:=∃ t:AT,e=.returned t.v/\t.ch=q/\OwnA w' w.heap.size t/\Below w.heap.size w w'
theorem OwnL.far{w:World}{base g i:Nat}{t:LT}(h:OwnL w base t)(hg:g < base)(u:Value):OwnL (w.setCell ⟨g,i,none⟩ u) base t:=
  h.keep fun k _ hk _=>Below.heap_setCell _ _ _ _ (by show k≠g;omega)
theorem zq8{w w2:World}{a:AT}{t1 t2:LT}(h1:OwnL w2 (w.heap.size+2) t1)(h2:OwnL w2 (w.heap.size+2) t2)(e1:t1.s=a.nm.s)(e2:t2.s=a.vl.s)(q1:t1.ch=a.nm.ch)(q2:t2.ch=a.vl.ch)(hb:Below w.heap.size w w2) :
    zot a.ch w (.returned (.agg #[.string a.nm.s,.slice t1.A t1.n t1.c,.string a.vl.s,.slice t2.A t2.n t2.c])) ((((w2.setCell ⟨w.heap.size+1,0,none⟩ (.string a.nm.s)).setCell ⟨w.heap.size+1,1,none⟩ (.slice t1.A t1.n t1.c)).setCell ⟨w.heap.size+1,2,none⟩ (.string a.vl.s)).setCell ⟨w.heap.size+1,3,none⟩ (.slice t2.A t2.n t2.c)):=by
  refine⟨⟨t1,t2⟩,?_,?_,?_,?_⟩
  . unfold AT.v;rw[e1,e2]
  . unfold AT.ch;rw[q1,q2]
  . have hl:w.heap.size+1 < w.heap.size+2:=Nat.lt_succ_self _
    exact⟨((((h1.far hl _).far hl _).far hl _).far hl _).mono (by omega),((((h2.far hl _).far hl _).far hl _).far hl _).mono (by omega)⟩
  . have hl:w.heap.size<=w.heap.size+1:=Nat.le_succ _
    exact(((hb.setCell hl _).setCell hl _).setCell hl _).setCell hl _
theorem zq9(a:AT)(w:World)(ha:a.ok w w.heap.size) :
    Calls Tryz.prog 177 #[.agg #[.string a.nm.s,.slice a.nm.A a.nm.n a.nm.c,.string a.vl.s,.slice a.vl.A a.vl.n a.vl.c]] w (zot a.ch w):=by
  have HA:=Lib.hid ha
  clear ha
  go_enter Tryz.func177,Tryz.ntmps177
  go_wp2_with fail
  generalize hw0:(w.alloc (.cells #[.string a.nm.s,.slice a.nm.A a.nm.n a.nm.c,.string a.vl.s,.slice a.vl.A a.vl.n a.vl.c] 93)).alloc (.cells #[.string ⟨#[]⟩,.slice none 0 0,.string ⟨#[]⟩,.slice none 0 0] 93)=w0
  have y0:Whole w0 w.heap.size 93 #[.string a.nm.s,.slice a.nm.A a.nm.n a.nm.c,.string a.vl.s,.slice a.vl.A a.vl.n a.vl.c]:=by rw[<-hw0];exact(Whole.made w _ _).alloc _
  have y1:Whole w0 (w.heap.size+1) 93 #[.string ⟨#[]⟩,.slice none 0 0,.string ⟨#[]⟩,.slice none 0 0]:=by
    rw[<-hw0]
    have h:=Whole.made (w.alloc (.cells #[.string a.nm.s,.slice a.nm.A a.nm.n a.nm.c,.string a.vl.s,.slice a.vl.A a.vl.n a.vl.c] 93)) 93 #[.string ⟨#[]⟩,.slice none 0 0,.string ⟨#[]⟩,.slice none 0 0]
    simp only[World.size_alloc]at h
    exact h
  have hz0:w.heap.size+2<=w0.heap.size:=by rw[<-hw0];simp
  have hz1:w.heap.size+1<=w0.heap.size:=by omega
  have hb0:Below w.heap.size w w0:=by rw[<-hw0];exact((Below.refl _ _).alloc (Nat.le_refl _) _).alloc (by simp) _
  have ha0:a.ok w0 (w.heap.size+1):=(HA.out.below hb0).mono (by omega)
  have HL1:=Lib.hid ha0.1
  have HL2:=Lib.hid ha0.2
  have HW:=Lib.hid hw0
  clear hw0 ha0
  have c0:w0.cell? ⟨w.heap.size,0,none⟩=some (.string a.nm.s):=y0.at_ 0
  have c1:w0.cell? ⟨w.heap.size,1,none⟩=some (.slice a.nm.A a.nm.n a.nm.c):=y0.at_ 1
  have c2:w0.cell? ⟨w.heap.size,2,none⟩=some (.string a.vl.s):=y0.at_ 2
  have c3:w0.cell? ⟨w.heap.size,3,none⟩=some (.slice a.vl.A a.vl.n a.vl.c):=y0.at_ 3
  have KS:∀ w',Below (w.heap.size+1) w0 w'->w'.cell? ⟨w.heap.size,0,none⟩=some (.string a.nm.s)/\w'.cell? ⟨w.heap.size,1,none⟩=some (.slice a.nm.A a.nm.n a.nm.c)/\w'.cell? ⟨w.heap.size,2,none⟩=some (.string a.vl.s)/\w'.cell? ⟨w.heap.size,3,none⟩=some (.slice a.vl.A a.vl.n a.vl.c)/\Below (w.heap.size+1) w0 w':=fun w' h=>
    ⟨(h.cell (Nat.lt_succ_self _)).trans (y0.at_ 0),(h.cell (Nat.lt_succ_self _)).trans (y0.at_ 1),(h.cell (Nat.lt_succ_self _)).trans (y0.at_ 2),(h.cell (Nat.lt_succ_self _)).trans (y0.at_ 3),h⟩
  have HKS:=Lib.hid KS
  clear KS
  have y1':=y1.drew
  go_region_held3 (fun w'=>w'.cell? ⟨w.heap.size,0,none⟩=some (.string a.nm.s)/\w'.cell? ⟨w.heap.size,1,none⟩=some (.slice a.nm.A a.nm.n a.nm.c)/\w'.cell? ⟨w.heap.size,2,none⟩=some (.string a.vl.s)/\w'.cell? ⟨w.heap.size,3,none⟩=some (.slice a.vl.A a.vl.n a.vl.c)/\Below (w.heap.size+1) w0 w')
    (first
      | exact HKS.out _ (Below.drew (Below.refl _ _))
      | (go_split_ands;exact HKS.out _ (by assumption))
      | (go_split_ands;exact HKS.out _ (zb (by assumption) hz1 hb1))
      | (go_split_ands;exact HKS.out _ (zb (by assumption) hz1 hb2))
      | (go_split_ands;refine HKS.out _ ?_;refine Below.setCell (p:=⟨w.heap.size+1,3,none⟩) ?_ (Nat.le_refl _) _;refine Below.setCell (p:=⟨w.heap.size+1,2,none⟩) ?_ (Nat.le_refl _) _;refine Below.setCell (p:=⟨w.heap.size+1,1,none⟩) ?_ (Nat.le_refl _) _;refine Below.setCell (p:=⟨w.heap.size+1,0,none⟩) ?_ (Nat.le_refl _) _;assumption))
    (first
      | (go_at_call_of 38 (a.nm.A);refine(zcF a.nm.s a.nm.A a.nm.n a.nm.c a.nm.rs _ ?_ HL1.out.2.1 HL1.out.2.2.2 HL1.out.2.2.1).mono ?_;(go_split_ands;exact HL1.out.1.next (by assumption) hz1);rintro e w1 ⟨v1,rfl,h1,hb1⟩;obtain⟨t1,rfl,e1,q1,o1⟩:=zh4 HL1.out.2.2.2 h1;have hw1:Whole w1 (w.heap.size+1) 93 #[.string ⟨#[]⟩,.slice none 0 0,.string ⟨#[]⟩,.slice none 0 0]:=Whole.below (by assumption) hb1 (Whole.lt (by assumption));have c10:=hw1.at_ 0;have c11:=hw1.at_ 1;have c12:=hw1.at_ 2;have c13:=hw1.at_ 3;have f10:=hw1.free 0;have f11:=hw1.free 1;have f12:=hw1.free 2;have f13:=hw1.free 3)
      | (go_at_call_of 38 (a.vl.A);refine(zcF a.vl.s a.vl.A a.vl.n a.vl.c a.vl.rs _ ?_ HL2.out.2.1 HL2.out.2.2.2 HL2.out.2.2.1).mono ?_;(go_split_ands;exact HL2.out.1.next (by assumption) hz1);rintro e w2 ⟨v2,rfl,h2,hb2⟩;obtain⟨t2,rfl,e2,q2,o2⟩:=zh4 HL2.out.2.2.2 h2;have hw2:Whole w2 (w.heap.size+1) 93 #[.string ⟨#[]⟩,.slice none 0 0,.string ⟨#[]⟩,.slice none 0 0]:=Whole.below (by assumption) hb2 (Whole.lt (by assumption));have c20:=hw2.at_ 0;have c21:=hw2.at_ 1;have c22:=hw2.at_ 2;have c23:=hw2.at_ 3;have f20:=hw2.free 0;have f21:=hw2.free 1;have f22:=hw2.free 2;have f23:=hw2.free 3))
  all_goals
    go_wp2
    refine bodyPost_ret (v:=.agg #[.string a.nm.s,.slice t1.A t1.n t1.c,.string a.vl.s,.slice t2.A t2.n t2.c]) ?_ rfl ?_
    . simp [results,Tryz.results177,go_sem, *]
    . have k1:w.heap.size+2<=w0.drew.heap.size:=hz0
      exact zq8 ((o1.below hb2).mono k1) (o2.mono (Nat.le_trans k1 hb1.size)) e1 e2 q1 q2 (zb (zb hb0.drew (Nat.le_refl _) hb1) (Nat.le_refl _) hb2)
def plI(L:List PA)(nm:List UInt8):Int:=if zP L nm < L.length then (zP L nm:Int) else -1
def KeptPost(S:Nat->Prop)(I:World->Prop)(qs:List PA)(w:World)(e:Ending)(w':World):Prop:=
  ∃ A c ts,e=.returned (.slice A ts.length c)/\w'.ownsRow w.heap.size 93 4 (.slice A ts.length c) ts.length (zm ts)/\AllOwn w' w.heap.size ts/\ts.map AT.ch=qs/\Moved S w w'/\I w'
def zf9(S:Nat->Prop)(Inv:Nat->World->Prop)(p:Nat->Bool)(L:List PA)(n:Nat)(w0:World)(v i:Value)(wr:World):Prop:=
  ∃ (k:Nat) (us:List AT),k<=n/\i=.int .i64 (k:Int)/\wr.ownsRow w0.heap.size 93 4 v us.length (zm us)/\AllOwn wr w0.heap.size us/\us.map AT.ch=zaB p L k/\Moved S w0 wr/\Inv k wr
theorem Moved.cell{S:Nat->Prop}{w w':World}(h:Moved S w w'){p:Addr}(hp:p.block < w.heap.size)(hs:¬ S p.block):w'.cell? p=w.cell? p:=by
  unfold World.cell?
  rw[h.block _ hp hs]
theorem AllOwn.moved{S:Nat->Prop}{w w':World}{base:Nat}{ts:List AT}(h:AllOwn w base ts)(hm:Moved S w w')(hs:∀ g,S g->g < base):AllOwn w' base ts:=
  fun t ht=>(h t ht).keep fun g _ hg hc=>hm.block g (Array.getElem?_eq_some_iff.1 hc).1 (fun h=>by have:=hs g h;omega)
theorem zou{S:Nat->Prop}{Inv:Nat->World->Prop}{p:Nat->Bool}{L:List PA}{n k:Nat}{w0 w w1 w2:World}{v:Value}{us:List AT}{x:PA}(hx:L[k]?=some x)(hk:k < n)(hp:p k=false)(hS:∀ g,S g->g < w0.heap.size)
    (hown:w.ownsRow w0.heap.size 93 4 v us.length (zm us)) (hA:AllOwn w w0.heap.size us) (hq:us.map AT.ch=zaB p L k) (hm:Moved S w0 w) (hb:Below w.heap.size w w1) (hm1:Moved S w1 w2) (hI:Inv (k+1) w2) :
    zf9 S Inv p L n w0 v (.int .i64 ((k:Int)+1)) w2:=by
  have hm01:Moved S w w2:=(Moved.of_below hb).trans hm1
  refine⟨k+1,us,by omega,by simp,hm01.own hown (fun g hg h=>by have:=(hown.lt g hg).1;have:=hS g h;omega),hA.moved hm01 hS,?_,hm.trans hm01,hI⟩
  rw[zbq hx,hp,hq]
  simp
theorem zra{S:Nat->Prop}{Inv:Nat->World->Prop}{p:Nat->Bool}{L:List PA}{n k:Nat}{w0 w w1 w2 w3 w4:World}{v v':Value}{us:List AT}{t:AT}{x:PA}{ob:Obj}(hx:L[k]?=some x)(hk:k < n)(hp:p k=true)(hS:∀ g,S g->g < w0.heap.size)
    (hIn:∀ k w' w'',Inv k w'->Below w0.heap.size w' w''->Inv k w'')
    (hown:w.ownsRow w0.heap.size 93 4 v us.length (zm us)) (hA:AllOwn w w0.heap.size us) (hq:us.map AT.ch=zaB p L k) (hm:Moved S w0 w) (hb:Below w.heap.size w w1) (hm1:Moved S w1 w2) (hI:Inv (k+1) w2)
    (ht:t.ch=x) (ho:OwnA w3 w2.heap.size t) (hb3:Below w2.heap.size w2 w3) (hown4:w4.ownsRow w0.heap.size 93 4 v' (us.length+1) (zm us++ zcU t)) (hg:(w3.alloc ob).grownBy w4 v.ownBlock) :
    zf9 S Inv p L n w0 v' (.int .i64 ((k:Int)+1)) w4:=by
  have hm03:Moved S w w3:=((Moved.of_below hb).trans hm1).trans (Moved.of_below hb3)
  have hown3:(w3.alloc ob).ownsRow w0.heap.size 93 4 v us.length (zm us):=(hm03.own hown (fun g hg h=>by have:=(hown.lt g hg).1;have:=hS g h;omega)).alloc _
  have hlt:=fun g (hg:v.ownBlock=some g)=>(hown3.lt g hg).1
  have hz:w0.heap.size<=w.heap.size:=hm.size
  have hz2:w.heap.size<=w2.heap.size:=((Moved.of_below (S:=S) hb).trans hm1).size
  have hbg:Below w0.heap.size w2 w4:=((hb3.mono (by omega)).alloc (by have:=hb3.size;omega) ob).grown hg (by have:=hb3.size;simp;omega) hlt
  refine⟨k+1,us++ [t],by omega,by simp,?_,?_,?_,((hm.trans hm03).alloc ob).grown hg (fun g hg=>hlt g hg),hIn _ _ _ hI hbg⟩
  . rw[ze8,List.length_append,List.length_singleton]
    exact hown4
  . have h3:AllOwn (w3.alloc ob) w0.heap.size (us++ [t]):=((hA.moved hm03 hS).snoc (ho.mono (by omega))).below ((Below.refl _ _).alloc (Nat.le_refl _) _)
    exact fun y hy=>(h3 y hy).grown hown3 (by decide) hg
  . rw[List.map_append,hq,zbq hx,hp]
    simp [ht]
theorem zlK(F:Nat)(caps:Array Value)(S:Nat->Prop)(Inv:Nat->World->Prop)(p:Nat->Bool)(B0:Nat)(A:Option Addr)(n c:Nat)(ts:List AT)(w:World)(hl:Lies w B0 A (zm ts))(hok:AllOk w B0 ts)(hn:ts.length=n)(hn2:n<=4294967296)
    (hE:∀ args w',Sem.run Tryz.prog (callFunc F args) w'=.ok (.enter F args) w') (hB0:B0<=w.heap.size) (hS:∀ g,S g->B0<=g/\g < w.heap.size) (hI:∀ k w' w'',Inv k w'->Below w.heap.size w' w''->Inv k w'') (hI0:Inv 0 w)
    (hF:∀ (k:Nat) (t:AT) w',ts[k]?=some t->Inv k w'->t.ok w' w'.heap.size->w.heap.size<=w'.heap.size->Calls Tryz.prog F (#[.agg #[.string t.nm.s,.slice t.nm.A t.nm.n t.nm.c,.string t.vl.s,.slice t.vl.A t.vl.n t.vl.c]]++ caps) w' fun e w''=>e=.returned (.bool (p k))/\Inv (k+1) w''/\Moved S w' w'') :
    Calls Tryz.prog 160 #[.slice A n c,.func (.func F) #[] caps] w (KeptPost S (Inv n) (sel p (ts.map AT.ch)) w):=by
  obtain⟨i0,hi,hz0,hz1,hz2⟩:=info_parts zlz
  have HN:=Lib.hid hn
  have HE:=Lib.hid hE
  have HF:=Lib.hid hF
  have HL:=Lib.hid hl
  have HS:=Lib.hid hS
  have HI:=Lib.hid hI
  have HI0:=Lib.hid hI0
  have HOK:=Lib.hid hok
  have HLN:Hid ((ts.map AT.ch).length=n):=by show _=_;rw[List.length_map];exact hn
  have HS2:Hid (∀ g,S g->g < w.heap.size):=fun g h=>(hS g h).2
  clear hn hE hF hl hS hI hI0 hok
  go_enter Tryz.func160,Tryz.ntmps160
  go_wp2_with fail
  go_loopw [5,10] (zf9 S Inv p (ts.map AT.ch) n w) (fun _ i _=>n - (intOf i).toNat)
  case atStart=>exact⟨0,[],Nat.zero_le _,rfl,World.ownsRow_nil _ _ _ _,(by intro t ht;cases ht),rfl,Moved.refl _ _,HI0.out⟩
  case round=>
    obtain⟨k,us,hk,rfl,hown,hA,hq,hm,hinv⟩:=hrel
    have hkeep:∀ q:Addr,q.block < B0->wr.cell? q=w.cell? q:=fun q hq=>hm.cell (by omega) (fun h=>by have:=(HS.out _ h).1;omega)
    have HKEEP:=Lib.hid hkeep
    have hzr:=hm.size
    have hul:us.length<=k:=by
      have h1:=zdU p (ts.map AT.ch) k
      rw[<-hq,List.length_map]at h1
      exact h1
    obtain⟨A5,c5,rfl,_,_,_⟩:=zg hown
    have HOW:=Lib.hid hown
    have HA:=Lib.hid hA
    have HQ:=Lib.hid hq
    have HM:=Lib.hid hm
    have HINV:=Lib.hid hinv
    clear hown hA hq hm hinv hkeep
    by_cases hlt:k < n
    . obtain⟨ad,t,rfl,hbA,d0,d1,d2,d3,HR⟩:=(HL.out.keep HKEEP.out).att (k:=k) (by rw[HN.out];exact hlt)
      have hk0:(0:Int)<=(k:Int):=Int.natCast_nonneg _
      have hk1:(k:Int) < (n:Int):=by omega
      have HRC:=Lib.hid (zd4 HR.out)
      have HTO:Hid (t.ok wr B0):=(HOK.out.keep HKEEP.out).get HR.out
      go_wp2_with fail
      generalize hw4:wr.alloc (.cells #[.string t.nm.s,.slice t.nm.A t.nm.n t.nm.c,.string t.vl.s,.slice t.vl.A t.vl.n t.vl.c] 93)=w4
      have y4:Whole w4 wr.heap.size 93 #[.string t.nm.s,.slice t.nm.A t.nm.n t.nm.c,.string t.vl.s,.slice t.vl.A t.vl.n t.vl.c]:=by rw[<-hw4];exact Whole.made _ _ _
      have hb4:Below wr.heap.size wr w4:=by rw[<-hw4];exact(Below.refl _ _).alloc (Nat.le_refl _) _
      clear hw4 d0 d1 d2 d3
      have hz4:=hb4.size
      have e0:w4.cell? ⟨wr.heap.size,0,none⟩=some (.string t.nm.s):=y4.at_ 0
      have e1:w4.cell? ⟨wr.heap.size,1,none⟩=some (.slice t.nm.A t.nm.n t.nm.c):=y4.at_ 1
      have e2:w4.cell? ⟨wr.heap.size,2,none⟩=some (.string t.vl.s):=y4.at_ 2
      have e3:w4.cell? ⟨wr.heap.size,3,none⟩=some (.slice t.vl.A t.vl.n t.vl.c):=y4.at_ 3
      go_wp2_with fail
      rw[HE.out]
      refine(HF.out k t w4 HR.out (HI.out _ _ _ HINV.out (hb4.mono (by omega))) ((HTO.out.below (hb4.mono (by omega))).mono (by omega)) (by omega)).mono ?_
      rintro e w5 ⟨rfl,hinv5,hm5⟩
      clear e0 e1 e2 e3
      cases hp:p k with
      | false=>
        have HIN:Hid (zf9 S Inv p (ts.map AT.ch) n w (.slice A5 us.length c5) (.int .i64 ((k:Int)+1)) w5):=zou HRC.out hlt hp HS2.out HOW.out HA.out HQ.out HM.out hb4 hm5 hinv5
        clear hinv5 hm5 hp y4 hb4
        go_wp2_with fail
        go_roundw
        case rel=>exact HIN.out
        case measure=>simp [intOf];omega
      | true=>
        have hns:¬ S wr.heap.size:=fun h=>by have:=HS2.out _ h;omega
        have y5:=hm5.whole y4 hns
        have e0:w5.cell? ⟨wr.heap.size,0,none⟩=some (.string t.nm.s):=y5.at_ 0
        have e1:w5.cell? ⟨wr.heap.size,1,none⟩=some (.slice t.nm.A t.nm.n t.nm.c):=y5.at_ 1
        have e2:w5.cell? ⟨wr.heap.size,2,none⟩=some (.string t.vl.s):=y5.at_ 2
        have e3:w5.cell? ⟨wr.heap.size,3,none⟩=some (.slice t.vl.A t.vl.n t.vl.c):=y5.at_ 3
        have hz5:=hm5.size
        have HTO5:Hid (t.ok w5 w5.heap.size):=((HTO.out.below (hb4.mono (by omega))).keep (fun q hq=>hm5.cell (by omega) (fun h=>by have:=(HS.out _ h).1;omega))).mono (by omega)
        have H5:=Lib.hid hm5
        have HI5:=Lib.hid hinv5
        have HP:=Lib.hid hp
        have HB4:=Lib.hid hb4
        clear hinv5 hm5 hp y4 y5 hb4
        go_wp2_with fail
        refine(zq9 t w5 HTO5.out).mono ?_
        rintro e w6 ⟨t',rfl,hch,ho6,hb6⟩
        have hown6:w6.ownsRow w.heap.size 93 4 (.slice A5 us.length c5) us.length (zm us):=(((Moved.of_below HB4.out).trans H5.out).trans (Moved.of_below hb6)).own HOW.out (fun g hg h=>by have:=(HOW.out.lt g hg).1;have:=HS2.out g h;omega)
        have hz6:=hb6.size
        have HO6:=Lib.hid ho6
        have HB6:=Lib.hid hb6
        have HCH:=Lib.hid hch
        clear ho6 hb6 hch e0 e1 e2 e3
        unfold AT.v
        generalize hz:us.length=z at *
        have HZ:=Lib.hid hz
        clear hz
        go_wp2_with (at_builtin;refine wpList_append_own_at _ rfl _ _ 46 rfl w.heap.size 93 i0 _ 4 80 Tryz.underlying46 hi hz0 hz1 hz2 rfl (by decide) (.slice A5 z c5) z _ rfl (hown6.alloc _) ⟨w6.heap.size,0,none⟩ 1 1 (zcU t') rfl rfl (zab w6 _ _) (by simp [Value.oneCell',zcU]) (by simp only[maxLen];omega) (by omega) (by simp;omega) ?_)
        intro v' w7 hown7 hgrow _ _
        obtain⟨A7,d7,rfl,_,_,_⟩:=zg hown7
        have HIN:Hid (zf9 S Inv p (ts.map AT.ch) n w (.slice A7 (z+1) d7) (.int .i64 ((k:Int)+1)) w7):=by
          have hgr:=hgrow
          have hon:=hown7
          have how:=HOW.out
          rw[<-HZ.out]at hgr hon how ⊢
          exact zra HRC.out hlt HP.out HS2.out HI.out how HA.out HQ.out HM.out HB4.out H5.out HI5.out HCH.out HO6.out HB6.out hon hgr
        clear hgrow hown7 hown6
        go_wp2_with fail
        go_roundw
        case rel=>exact HIN.out
        case measure=>simp [intOf];omega
    . obtain rfl:k=n:=by omega
      go_wp2_with fail
      go_ret
      exact⟨A5,c5,us,rfl,HOW.out,HA.out,by rw[HQ.out];unfold sel;rw[HLN.out],HM.out,HINV.out⟩
end Go.Proofs.YtddgabjhligeeaaGreat.mk
