import Derived.Test.YtddgabjhligeeaaGreatJnA
import Derived.WalkKit
import Derived.WalkLawsBesides
import Derived.BigQuiet
import Derived.Deep.QuietTactic
import Derived.Lib.Hide
import Derived.Outline
import Derived.OwnWalk
import Derived.Maps.AppendAt
set_option maxHeartbeats 400000
set_option maxRecDepth 100000
namespace Go.Proofs.YtddgabjhligeeaaGreat.mk
open Go.RowKit
theorem zdZ{k:IntKind}{a b:Int}(h:a=b):Ending.returned (.int k a)=.returned (.int k b):=by rw[h]
theorem zmA(o:Int)(w:World):Calls Tryz.prog 117 #[.int .i64 o] w fun e w'=>e=.returned (.int .i64 (zaa o))/\w=w':=by
  go_enter Tryz.func117,Tryz.ntmps117
  go_wp2
  all_goals (go_ret;exact⟨zdZ (by unfold zaa;omega),rfl⟩)
theorem zcE(o:Int)(w:World):Calls Tryz.prog 59 #[.int .i64 o] w fun e w'=>e=.returned (.int .i64 (zaa o))/\w=w':=by
  go_enter Tryz.func59,Tryz.ntmps59
  go_wp2
  all_goals (go_ret;exact⟨zdZ (by unfold zaa;omega),rfl⟩)
theorem zgn(i n:Int)(w:World):Calls Tryz.prog 26 #[.int .i64 i,.int .i64 n] w fun e w'=>e=.returned (.int .i64 (min (max i 0) n))/\w=w':=by
  go_enter Tryz.func26,Tryz.ntmps26
  go_wp2
  all_goals (go_ret;exact⟨zdZ (by omega),rfl⟩)
def JoinPost(base:Nat)(v:Value)(rs':List (Int × Int))(w:World)(e:Ending)(w':World):Prop:=
  ∃ v',e=.returned v'/\w'.ownsRow base 53 2 v' rs'.length (zc rs')/\w.grownBy w' v.ownBlock/\(v'.ownBlock=v.ownBlock\/∃ k,w.heap.size<=k/\v'.ownBlock=some k)
theorem zbr:(Tryz.prog.info? 53).map (fun i=>(i.zero,i.size,i.bytes))=some (some (.agg #[.int .i64 0,.int .i64 0]),2,16):=by kernel_rfl
theorem zkg(base:Nat)(v:Value)(rs:List (Int × Int))(n o:Int)(w:World)(hown:w.ownsRow base 53 2 v rs.length (zc rs))(hn:n < 1) :
    Calls Tryz.prog 28 #[v,.int .i64 n,.int .i64 o] w (JoinPost base v (zbg rs n o) w):=by
  have H:=Lib.hid (zaK (rs:=rs) (o:=o) hn)
  go_enter Tryz.func28,Tryz.ntmps28
  go_wp2
  go_ret
  rw[H.out]
  exact⟨v,rfl,hown,World.grownBy.refl _ _,.inl rfl⟩
theorem zT(w:World)(t:TypeId)(cs:List Value):∀ j u,cs[j]?=some u->(w.alloc (.cells cs.toArray t)).cell? ((⟨w.heap.size,0,none⟩:Addr).add j)=some u:=by
  intro j u h
  have hadd:(⟨w.heap.size,0,none⟩:Addr).add j=⟨w.heap.size,j,none⟩:=by unfold Addr.add;split<;>simp_all
  rw[hadd,cell_of_row (w.alloc (.cells cs.toArray t)) w.heap.size j cs.toArray t (0,0) (heap_alloc_new w _)]
  simpa using h
theorem zcp{base:Nat}{v v':Value}{rs:List (Int × Int)}{n o:Int}{w w1:World}{ob:Obj}
    (h1:w1.ownsRow base 53 2 v' (rs.length+1) (zc rs++ [.int .i64 n,.int .i64 o])) (h2:(w.alloc ob).grownBy w1 v.ownBlock) (h3:v'.ownBlock=v.ownBlock\/v'.ownBlock=some (w.heap.size+1)) :
    JoinPost base v (rs++ [(n,o)]) w (.returned v') w1:=by
  refine⟨v',rfl,?_,?_,?_⟩
  . rw[zQ,zge];simpa using h1
  . exact⟨h2.os,h2.tape,h2.output,Nat.le_trans (by simp) h2.size,fun k hk hne=>(h2.block k (by simp;omega) hne).trans (Below.heap_alloc w ob k hk)⟩
  . rcases h3 with h | h
    . exact .inl h
    . exact .inr ⟨_,by omega,h⟩
theorem zij(base:Nat)(A:Option Addr)(c:Nat)(n o:Int)(w:World)(hown:w.ownsRow base 53 2 (.slice A 0 c) 0 [])(hn:1<=n)(hbase:base<=w.heap.size) :
    Calls Tryz.prog 28 #[.slice A 0 c,.int .i64 n,.int .i64 o] w (JoinPost base (.slice A 0 c) [(n,o)] w):=by
  obtain⟨i0,hi,hz0,hz1,hz2⟩:=info_parts zbr
  have hn':¬ n < 1:=by omega
  go_enter Tryz.func28,Tryz.ntmps28
  go_wp2_with (at_builtin;refine wpList_append_own_at _ rfl (.tmp 35) (.tmp 39) 22 rfl base 53 i0 _ 2 16 Tryz.underlying22 hi hz0 hz1 hz2 rfl (by decide) (.slice A 0 c) 0 [] rfl (hown.alloc _) ⟨w.heap.size,0,none⟩ 1 1 [.int .i64 n,.int .i64 o] rfl rfl (zT w _ _) (by simp [Value.oneCell']) (by simp only[maxLen];omega) (by omega) (by simp;omega) ?_)
  intro v' w1 h1 h2 _ h3
  go_wp2
  go_ret
  exact zcp (rs:=[]) h1 h2 h3
theorem zja(base:Nat)(g c:Nat)(rs:List (Int × Int))(l p n o:Int)(w:World)(hlen:rs.length<=4294967296)(hown:w.ownsRow base 53 2 (.slice (some ⟨g,0,none⟩) (rs.length+1) c) (rs.length+1) (zc (rs++ [(l,p)])))(hn:1<=n)(hbase:base<=w.heap.size)(hp:p≠o) :
    Calls Tryz.prog 28 #[.slice (some ⟨g,0,none⟩) (rs.length+1) c,.int .i64 n,.int .i64 o] w (JoinPost base (.slice (some ⟨g,0,none⟩) (rs.length+1) c) (rs++ [(l,p)]++ [(n,o)]) w):=by
  obtain⟨i0,hi,hz0,hz1,hz2⟩:=info_parts zbr
  have hn':¬ n < 1:=by omega
  have hcell:w.cell? ⟨g,rs.length * 2+1,none⟩=some (.int .i64 p):=by
    rw[hown.cellAt _ (by omega)]
    have:=zak (rs++ [(l,p)]) rs.length (by simp)
    simpa [List.getD]using this
  have hpo:(p == o)=false:=by simpa using hp
  generalize hk:rs.length=k at *
  have HK:=Lib.hid hk
  clear hk
  go_enter Tryz.func28,Tryz.ntmps28
  go_wp2_with (at_builtin;refine wpList_append_own_at _ rfl (.tmp 35) (.tmp 39) 22 rfl base 53 i0 _ 2 16 Tryz.underlying22 hi hz0 hz1 hz2 rfl (by decide) (.slice (some ⟨g,0,none⟩) (k+1) c) (k+1) (zc (rs++ [(l,p)])) rfl (hown.alloc _) ⟨w.heap.size,0,none⟩ 1 1 [.int .i64 n,.int .i64 o] rfl rfl (zT w _ _) (by simp [Value.oneCell']) (by simp only[maxLen];omega) (by omega) (by simp;omega) ?_)
  intro v' w1 h1 h2 _ h3
  go_wp2
  go_ret
  exact zcp (rs:=rs++ [(l,p)]) (by simpa [HK.out]using h1) h2 h3
theorem zca(rs:List (Int × Int))(l p m:Int):(zc (rs++ [(l,p)])).set (rs.length * 2) (.int .i64 m)=zc (rs++ [(m,p)]):=by
  rw[zQ,zQ,List.set_append_right _ _ (by rw[zai];exact Nat.le_refl _),zai]
  simp [zc]
theorem zkh(base:Nat)(g c:Nat)(rs:List (Int × Int))(l n o:Int)(w:World)(hlen:rs.length<=4294967296)(hown:w.ownsRow base 53 2 (.slice (some ⟨g,0,none⟩) (rs.length+1) c) (rs.length+1) (zc (rs++ [(l,o)])))(hn:1<=n)(hn2:n<=4294967296)(hl:0<=l)(hl2:l<=4294967296) :
    Calls Tryz.prog 28 #[.slice (some ⟨g,0,none⟩) (rs.length+1) c,.int .i64 n,.int .i64 o] w (JoinPost base (.slice (some ⟨g,0,none⟩) (rs.length+1) c) (rs++ [(l+n,o)]) w):=by
  have hn':¬ n < 1:=by omega
  have hcell:w.cell? ⟨g,rs.length * 2+1,none⟩=some (.int .i64 o):=by
    rw[hown.cellAt _ (by omega)]
    have:=zak (rs++ [(l,o)]) rs.length (by simp)
    simpa [List.getD]using this
  have hcell2:w.cell? ⟨g,rs.length * 2,none⟩=some (.int .i64 l):=by
    rw[hown.cellAt _ (by omega)]
    have:=za4 (rs++ [(l,o)]) rs.length (by simp)
    simpa [List.getD]using this
  have hfz:w.frozen? ⟨g,rs.length * 2,none⟩=false:=hown.frozenAt _
  have hst:=Lib.hid (hown.stored (rs.length * 2) (.int .i64 (l+n)))
  have hpo:(o == o)=true:=by simp
  generalize hk:rs.length=k at *
  have HK:=Lib.hid hk
  clear hk
  go_enter Tryz.func28,Tryz.ntmps28
  go_wp2
  go_ret
  refine⟨_,rfl,?_,hst.out.2,.inl rfl⟩
  have h1:=hst.out.1
  obtain rfl:rs.length=k:=HK.out
  rw[zca]at h1
  simpa using h1
theorem zmB(base:Nat)(v:Value)(rs:List (Int × Int))(n o:Int)(w:World)(hown:w.ownsRow base 53 2 v rs.length (zc rs))(hbase:base<=w.heap.size)(hlen:rs.length<=4294967296)(hrs:∀ r∈rs,0<=r.1/\r.1<=4294967296)(hn:n<=4294967296) :
    Calls Tryz.prog 28 #[v,.int .i64 n,.int .i64 o] w (JoinPost base v (zbg rs n o) w):=by
  by_cases h:n < 1
  . exact zkg base v rs n o w hown h
  rcases zaL rs with rfl | ⟨r,⟨l,p⟩,rfl⟩
  . rw[zaO h]
    rcases hown.2 with ⟨rfl,_⟩ | ⟨g,cap,cur,rfl,_⟩
    . exact zij base none 0 n o w hown (by omega) hbase
    . exact zij base _ cap n o w hown (by omega) hbase
  . have hr:=hrs (l,p) (by simp)
    have hl:(r++ [(l,p)]).length=r.length+1:=by simp
    rw[hl]at hown hlen
    rcases hown.2 with ⟨_,h0⟩ | ⟨g,cap,cur,rfl,_⟩
    . omega
    . by_cases hp:p=o
      . subst hp;rw[zab h]
        exact zkh base g cap r l n p w (by omega) hown (by omega) hn hr.1 hr.2
      . rw[zal h hp]
        exact zja base g cap r l p n o w (by omega) hown (by omega) hbase hp
theorem zbJ(base:Nat)(v:Value)(l:List Int)(n o:Int)(w:World)(hown:w.ownsRow base 53 2 v (comp l).length (zc (comp l)))(hbase:base<=w.heap.size)(hlen:l.length<=4294967296)(hn:n<=4294967296) :
    Calls Tryz.prog 28 #[v,.int .i64 n,.int .i64 o] w (JoinPost base v (comp (l++ List.replicate n.toNat o)) w):=by
  rw[<-zeR]
  refine zmB base v (comp l) n o w hown hbase (Nat.le_trans (zD l) hlen) (fun r hr=>⟨by have:=zaP l r hr;omega,?_⟩) hn
  have:=zdR l r hr
  omega
theorem zht(base:Nat)(v:Value)(rs:List (Int × Int))(n o:Int)(w:World)(hown:w.ownsRow base 53 2 v rs.length (zc rs))(hn:n=0) :
    Calls Tryz.prog 73 #[v,.int .i64 n,.int .i64 o] w (JoinPost base v (zbg rs n o) w):=by
  have H:=Lib.hid (zaK (rs:=rs) (o:=o) (show n < 1 by omega))
  subst hn
  go_enter Tryz.func73,Tryz.ntmps73
  go_wp2
  go_ret
  rw[H.out]
  exact⟨v,rfl,hown,World.grownBy.refl _ _,.inl rfl⟩
theorem zeT(base:Nat)(A:Option Addr)(c:Nat)(n o:Int)(w:World)(hown:w.ownsRow base 53 2 (.slice A 0 c) 0 [])(hn:1<=n)(hbase:base<=w.heap.size) :
    Calls Tryz.prog 73 #[.slice A 0 c,.int .i64 n,.int .i64 o] w (JoinPost base (.slice A 0 c) [(n,o)] w):=by
  obtain⟨i0,hi,hz0,hz1,hz2⟩:=info_parts zbr
  have hn':¬ n=0:=by omega
  have hn'':(n == 0)=false:=by rw[beq_eq_false_iff_ne];exact hn'
  go_enter Tryz.func73,Tryz.ntmps73
  go_wp2_with (at_builtin;refine wpList_append_own_at _ rfl (.tmp 35) (.tmp 39) 22 rfl base 53 i0 _ 2 16 Tryz.underlying22 hi hz0 hz1 hz2 rfl (by decide) (.slice A 0 c) 0 [] rfl (hown.alloc _) ⟨w.heap.size,0,none⟩ 1 1 [.int .i64 n,.int .i64 o] rfl rfl (zT w _ _) (by simp [Value.oneCell']) (by simp only[maxLen];omega) (by omega) (by simp;omega) ?_)
  intro v' w1 h1 h2 _ h3
  go_wp2
  go_ret
  exact zcp (rs:=[]) h1 h2 h3
theorem zgo(base:Nat)(g c:Nat)(rs:List (Int × Int))(l p n o:Int)(w:World)(hlen:rs.length<=4294967296)(hown:w.ownsRow base 53 2 (.slice (some ⟨g,0,none⟩) (rs.length+1) c) (rs.length+1) (zc (rs++ [(l,p)])))(hn:1<=n)(hbase:base<=w.heap.size)(hp:p≠o) :
    Calls Tryz.prog 73 #[.slice (some ⟨g,0,none⟩) (rs.length+1) c,.int .i64 n,.int .i64 o] w (JoinPost base (.slice (some ⟨g,0,none⟩) (rs.length+1) c) (rs++ [(l,p)]++ [(n,o)]) w):=by
  obtain⟨i0,hi,hz0,hz1,hz2⟩:=info_parts zbr
  have hn':¬ n=0:=by omega
  have hn'':(n == 0)=false:=by rw[beq_eq_false_iff_ne];exact hn'
  have hcell:w.cell? ⟨g,rs.length * 2+1,none⟩=some (.int .i64 p):=by
    rw[hown.cellAt _ (by omega)]
    have:=zak (rs++ [(l,p)]) rs.length (by simp)
    simpa [List.getD]using this
  have hpo:(p == o)=false:=by simpa using hp
  generalize hk:rs.length=k at *
  have HK:=Lib.hid hk
  clear hk
  go_enter Tryz.func73,Tryz.ntmps73
  go_wp2_with (at_builtin;refine wpList_append_own_at _ rfl (.tmp 35) (.tmp 39) 22 rfl base 53 i0 _ 2 16 Tryz.underlying22 hi hz0 hz1 hz2 rfl (by decide) (.slice (some ⟨g,0,none⟩) (k+1) c) (k+1) (zc (rs++ [(l,p)])) rfl (hown.alloc _) ⟨w.heap.size,0,none⟩ 1 1 [.int .i64 n,.int .i64 o] rfl rfl (zT w _ _) (by simp [Value.oneCell']) (by simp only[maxLen];omega) (by omega) (by simp;omega) ?_)
  intro v' w1 h1 h2 _ h3
  go_wp2
  go_ret
  exact zcp (rs:=rs++ [(l,p)]) (by simpa [HK.out]using h1) h2 h3
theorem zhu(base:Nat)(g c:Nat)(rs:List (Int × Int))(l n o:Int)(w:World)(hlen:rs.length<=4294967296)(hown:w.ownsRow base 53 2 (.slice (some ⟨g,0,none⟩) (rs.length+1) c) (rs.length+1) (zc (rs++ [(l,o)])))(hn:1<=n)(hn2:n<=70368744177664)(hl:0<=l)(hl2:l<=70368744177664) :
    Calls Tryz.prog 73 #[.slice (some ⟨g,0,none⟩) (rs.length+1) c,.int .i64 n,.int .i64 o] w (JoinPost base (.slice (some ⟨g,0,none⟩) (rs.length+1) c) (rs++ [(l+n,o)]) w):=by
  have hn':¬ n=0:=by omega
  have hn'':(n == 0)=false:=by rw[beq_eq_false_iff_ne];exact hn'
  have hcell:w.cell? ⟨g,rs.length * 2+1,none⟩=some (.int .i64 o):=by
    rw[hown.cellAt _ (by omega)]
    have:=zak (rs++ [(l,o)]) rs.length (by simp)
    simpa [List.getD]using this
  have hcell2:w.cell? ⟨g,rs.length * 2,none⟩=some (.int .i64 l):=by
    rw[hown.cellAt _ (by omega)]
    have:=za4 (rs++ [(l,o)]) rs.length (by simp)
    simpa [List.getD]using this
  have hfz:w.frozen? ⟨g,rs.length * 2,none⟩=false:=hown.frozenAt _
  have hst:=Lib.hid (hown.stored (rs.length * 2) (.int .i64 (l+n)))
  have hpo:(o == o)=true:=by simp
  generalize hk:rs.length=k at *
  have HK:=Lib.hid hk
  clear hk
  go_enter Tryz.func73,Tryz.ntmps73
  go_wp2
  go_ret
  refine⟨_,rfl,?_,hst.out.2,.inl rfl⟩
  have h1:=hst.out.1
  obtain rfl:rs.length=k:=HK.out
  rw[zca]at h1
  simpa using h1
theorem zjb(base:Nat)(v:Value)(rs:List (Int × Int))(n o:Int)(w:World)(hown:w.ownsRow base 53 2 v rs.length (zc rs))(hbase:base<=w.heap.size)(hlen:rs.length<=4294967296)(hrs:∀ r∈rs,0<=r.1/\r.1<=70368744177664)(hn0:0<=n)(hn:n<=70368744177664) :
    Calls Tryz.prog 73 #[v,.int .i64 n,.int .i64 o] w (JoinPost base v (zbg rs n o) w):=by
  by_cases h:n < 1
  . exact zht base v rs n o w hown (by omega)
  rcases zaL rs with rfl | ⟨r,⟨l,p⟩,rfl⟩
  . rw[zaO h]
    rcases hown.2 with ⟨rfl,_⟩ | ⟨g,cap,cur,rfl,_⟩
    . exact zeT base none 0 n o w hown (by omega) hbase
    . exact zeT base _ cap n o w hown (by omega) hbase
  . have hr:=hrs (l,p) (by simp)
    have hl:(r++ [(l,p)]).length=r.length+1:=by simp
    rw[hl]at hown hlen
    rcases hown.2 with ⟨_,h0⟩ | ⟨g,cap,cur,rfl,_⟩
    . omega
    . by_cases hp:p=o
      . subst hp;rw[zab h]
        exact zhu base g cap r l n p w (by omega) hown (by omega) hn hr.1 hr.2
      . rw[zal h hp]
        exact zgo base g cap r l p n o w (by omega) hown (by omega) hbase hp
theorem zhv(base:Nat)(v:Value)(l:List Int)(n o:Int)(w:World)(hown:w.ownsRow base 53 2 v (comp l).length (zc (comp l)))(hbase:base<=w.heap.size)(hlen:(comp l).length<=4294967296)(hlen2:l.length<=70368744177664)(hn0:0<=n)(hn:n<=70368744177664) :
    Calls Tryz.prog 73 #[v,.int .i64 n,.int .i64 o] w (JoinPost base v (comp (l++ List.replicate n.toNat o)) w):=by
  rw[<-zeR]
  refine zjb base v (comp l) n o w hown hbase hlen (fun r hr=>⟨by have:=zaP l r hr;omega,?_⟩) hn0 hn
  have:=zdR l r hr
  omega
theorem zki(base:Nat)(A:Option Addr)(c:Nat)(n o:Int)(w:World)(hown:w.ownsRow base 53 2 (.slice A 0 c) 0 [])(hbase:base<=w.heap.size) :
    Calls Tryz.prog 153 #[.slice A 0 c,.int .i64 n,.int .i64 o] w (JoinPost base (.slice A 0 c) [(n,o)] w):=by
  obtain⟨i0,hi,hz0,hz1,hz2⟩:=info_parts zbr
  go_enter Tryz.func153,Tryz.ntmps153
  go_wp2_with (at_builtin;refine wpList_append_own_at _ rfl _ _ 22 rfl base 53 i0 _ 2 16 Tryz.underlying22 hi hz0 hz1 hz2 rfl (by decide) (.slice A 0 c) 0 [] rfl (hown.alloc _) ⟨w.heap.size,0,none⟩ 1 1 [.int .i64 n,.int .i64 o] rfl rfl (zT w _ _) (by simp [Value.oneCell']) (by simp only[maxLen];omega) (by omega) (by simp;omega) ?_)
  intro v' w1 h1 h2 _ h3
  go_wp2
  go_ret
  exact zcp (rs:=[]) h1 h2 h3
theorem zkj(base:Nat)(g c:Nat)(rs:List (Int × Int))(l p n o:Int)(w:World)(hlen:rs.length<=4294967296)(hown:w.ownsRow base 53 2 (.slice (some ⟨g,0,none⟩) (rs.length+1) c) (rs.length+1) (zc (rs++ [(l,p)])))(hbase:base<=w.heap.size)(hp:p≠o) :
    Calls Tryz.prog 153 #[.slice (some ⟨g,0,none⟩) (rs.length+1) c,.int .i64 n,.int .i64 o] w (JoinPost base (.slice (some ⟨g,0,none⟩) (rs.length+1) c) (rs++ [(l,p)]++ [(n,o)]) w):=by
  obtain⟨i0,hi,hz0,hz1,hz2⟩:=info_parts zbr
  have hcell:w.cell? ⟨g,rs.length * 2+1,none⟩=some (.int .i64 p):=by
    rw[hown.cellAt _ (by omega)]
    have:=zak (rs++ [(l,p)]) rs.length (by simp)
    simpa [List.getD]using this
  have hpo:(p == o)=false:=by simpa using hp
  generalize hk:rs.length=k at *
  have HK:=Lib.hid hk
  clear hk
  have hk0:(0:Int)<=(k:Int):=Int.natCast_nonneg _
  go_enter Tryz.func153,Tryz.ntmps153
  go_wp2_with (at_builtin;refine wpList_append_own_at _ rfl _ _ 22 rfl base 53 i0 _ 2 16 Tryz.underlying22 hi hz0 hz1 hz2 rfl (by decide) (.slice (some ⟨g,0,none⟩) (k+1) c) (k+1) (zc (rs++ [(l,p)])) rfl (hown.alloc _) ⟨w.heap.size,0,none⟩ 1 1 [.int .i64 n,.int .i64 o] rfl rfl (zT w _ _) (by simp [Value.oneCell']) (by simp only[maxLen];omega) (by omega) (by simp;omega) ?_)
  intro v' w1 h1 h2 _ h3
  go_wp2
  go_ret
  exact zcp (rs:=rs++ [(l,p)]) (by simpa [HK.out]using h1) h2 h3
theorem zmC(base:Nat)(g c:Nat)(rs:List (Int × Int))(l n o:Int)(w:World)(hlen:rs.length<=4294967296)(hown:w.ownsRow base 53 2 (.slice (some ⟨g,0,none⟩) (rs.length+1) c) (rs.length+1) (zc (rs++ [(l,o)])))(hl:0<=l)(hl2:l<=4294967296)(hn:0<=n)(hn2:n<=4294967296) :
    Calls Tryz.prog 153 #[.slice (some ⟨g,0,none⟩) (rs.length+1) c,.int .i64 n,.int .i64 o] w (JoinPost base (.slice (some ⟨g,0,none⟩) (rs.length+1) c) (rs++ [(l+n,o)]) w):=by
  have hcell:w.cell? ⟨g,rs.length * 2+1,none⟩=some (.int .i64 o):=by
    rw[hown.cellAt _ (by omega)]
    have:=zak (rs++ [(l,o)]) rs.length (by simp)
    simpa [List.getD]using this
  have hcell2:w.cell? ⟨g,rs.length * 2,none⟩=some (.int .i64 l):=by
    rw[hown.cellAt _ (by omega)]
    have:=za4 (rs++ [(l,o)]) rs.length (by simp)
    simpa [List.getD]using this
  have hfz:w.frozen? ⟨g,rs.length * 2,none⟩=false:=hown.frozenAt _
  have hst:=Lib.hid (hown.stored (rs.length * 2) (.int .i64 (l+n)))
  have hpo:(o == o)=true:=by simp
  generalize hk:rs.length=k at *
  have HK:=Lib.hid hk
  clear hk
  have hk0:(0:Int)<=(k:Int):=Int.natCast_nonneg _
  go_enter Tryz.func153,Tryz.ntmps153
  go_wp2
  go_ret
  refine⟨_,rfl,?_,hst.out.2,.inl rfl⟩
  have h1:=hst.out.1
  obtain rfl:rs.length=k:=HK.out
  rw[zca]at h1
  simpa using h1
theorem zoe(base:Nat)(v:Value)(rs:List (Int × Int))(n o:Int)(w:World)(hown:w.ownsRow base 53 2 v rs.length (zc rs))(hbase:base<=w.heap.size)(hlen:rs.length<=4294967296)(hrs:∀ r∈rs,0<=r.1/\r.1<=4294967296)(hn:1<=n)(hn2:n<=4294967296) :
    Calls Tryz.prog 153 #[v,.int .i64 n,.int .i64 o] w (JoinPost base v (zbg rs n o) w):=by
  have h:¬ n < 1:=by omega
  rcases zaL rs with rfl | ⟨r,⟨l,p⟩,rfl⟩
  . rw[zaO h]
    rcases hown.2 with ⟨rfl,_⟩ | ⟨g,cap,cur,rfl,_⟩
    . exact zki base none 0 n o w hown hbase
    . exact zki base _ cap n o w hown hbase
  . have hr:=hrs (l,p) (by simp)
    have hl:(r++ [(l,p)]).length=r.length+1:=by simp
    rw[hl]at hown hlen
    rcases hown.2 with ⟨_,h0⟩ | ⟨g,cap,cur,rfl,_⟩
    . omega
    . by_cases hp:p=o
      . subst hp;rw[zab h]
        exact zmC base g cap r l n p w (by omega) hown hr.1 hr.2 (by omega) hn2
      . rw[zal h hp]
        exact zkj base g cap r l p n o w (by omega) hown hbase hp
theorem zik(base:Nat)(v:Value)(l:List Int)(n:Nat)(o:Int)(w:World)(hown:w.ownsRow base 53 2 v (comp l).length (zc (comp l)))(hbase:base<=w.heap.size)(hlen:l.length<=4294967296)(hn:1<=n)(hn2:n<=4294967296) :
    Calls Tryz.prog 153 #[v,.int .i64 n,.int .i64 o] w (JoinPost base v (comp (l++ List.replicate n o)) w):=by
  rw[zbx]
  refine zoe base v (comp l) n o w hown hbase (Nat.le_trans (zD l) hlen) (fun r hr=>⟨by have:=zaP l r hr;omega,?_⟩) (by omega) (by omega)
  have:=zdR l r hr
  omega
end Go.Proofs.YtddgabjhligeeaaGreat.mk
