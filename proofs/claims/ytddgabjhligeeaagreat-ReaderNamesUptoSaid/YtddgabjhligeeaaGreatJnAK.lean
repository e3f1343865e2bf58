import Derived.Test.YtddgabjhligeeaaGreatJnAF
import Derived.Test.YtddgabjhligeeaaGreatJnAB
import Derived.Great.BuildSlice
import Derived.Deep.WholeRow
set_option maxHeartbeats 400000
set_option maxRecDepth 100000
namespace Go.Proofs.YtddgabjhligeeaaGreat.mk
open Go.RowKit
def winV:Array Value:=(winL.map (Value.int .i64)).toArray
theorem zjL(w:World):Calls Tryz.prog 200 #[] w fun e w'=>e=.returned (.agg winV)/\Below w.heap.size w w':=by
  go_enter Tryz.func200,Tryz.ntmps200
  go_wp2_with (first
    | (refine wpList_buildFlatArr rfl 208 3 32 _ rfl .i64 winL (by as_aux_lemma=>kernel_rfl) (by as_aux_lemma=>kernel_rfl) (by as_aux_lemma=>kernel_rfl) (by as_aux_lemma=>kernel_rfl) ?_)
    | (refine wpList_store_row rfl 208 _ _ rfl w.heap.size winV rfl rfl 208 _ (heap_alloc_new w _) (by as_aux_lemma=>kernel_rfl) (by as_aux_lemma=>kernel_rfl) (by as_aux_lemma=>kernel_rfl) ?_;rw[World.setRow_alloc_new])
    | fail)
  exact bodyPost_ret (results_cell_row Tryz.results200 _ _ w.heap.size 208 winV (0,0) _ rfl (Whole.made w 208 winV) Tryz.underlying208 rfl (by as_aux_lemma=>kernel_rfl)) rfl ⟨rfl,(Below.refl _ _).alloc (Nat.le_refl _) _⟩
theorem znq(k:Nat)(h:k < 32):winV[k]?=some (.int .i64 (winL.getD k 0)):=by
  have h2:k < winL.length:=h
  unfold winV
  rw[List.getElem?_toArray,List.getElem?_map,List.getElem?_eq_getElem h2]
  simp [List.getElem?_eq_getElem h2]
theorem zpL(k:Nat)(h:k < 32)(w:World):(Instr.index 208 (.agg winV) (.int .i64 (k:Int))).run Tryz.prog w=.ok (.int .i64 (winL.getD k 0)) w:=by
  have hc:=znq k h
  simp [go_sem,Instr.index,hc]
  intro h2
  omega
theorem znr{n:Int}{k:Nat}(h:n - 128=(k:Int))(hk:k < 32):zbn (winL.getD k 0)=numB n:=by
  unfold numB winN
  have h1:128<=n/\n<=159:=by omega
  rw[if_pos h1,h,Int.toNat_natCast]
theorem ziX{n:Int}(h:¬ (128<=n/\n<=159)):zbn n=numB n:=by
  unfold numB winN
  rw[if_neg h]
theorem ze9(n:Int)(w:World):Calls Tryz.prog 193 #[.int .i64 n] w fun e w'=>e=.returned (.string (numB n))/\Below w.heap.size w w':=by
  by_cases h1:128<=n
  . by_cases h2:n<=159
    . obtain⟨k,hk⟩:∃ k:Nat,n - 128=(k:Int):=⟨(n - 128).toNat,by omega⟩
      have hk2:k < 32:=by omega
      have HR:=Lib.hid (znr hk hk2)
      have ft:=fun w'=>zpL k hk2 w'
      generalize winL.getD k 0=r at *
      go_enter Tryz.func193,Tryz.ntmps193
      go_wp2_with fail
      refine(zjL _).mono ?_
      rintro e w1 ⟨rfl,hb1⟩
      generalize winV=wv at *
      go_wp2_with fail
      refine(zfv _ _).mono ?_
      rintro e w' ⟨rfl,rfl⟩
      go_wp2_with fail
      go_ret
      exact⟨by rw[<-HR.out];rfl,hb1⟩
    . have HR:=Lib.hid (ziX (n:=n) (fun h=>h2 h.2))
      go_enter Tryz.func193,Tryz.ntmps193
      go_wp2_with fail
      refine(zfv _ _).mono ?_
      rintro e w' ⟨rfl,rfl⟩
      go_wp2_with fail
      go_ret
      exact⟨by rw[<-HR.out];rfl,Below.refl _ _⟩
  . have HR:=Lib.hid (ziX (n:=n) (fun h=>h1 h.1))
    go_enter Tryz.func193,Tryz.ntmps193
    go_wp2_with fail
    refine(zfv _ _).mono ?_
    rintro e w' ⟨rfl,rfl⟩
    go_wp2_with fail
    go_ret
    exact⟨by rw[<-HR.out];rfl,Below.refl _ _⟩
end Go.Proofs.YtddgabjhligeeaaGreat.mk
