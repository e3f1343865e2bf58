import Derived.Test.YtddgabjhligeeaaGreatJnAS
import Derived.Test.YtddgabjhligeeaaGreatJnAD
namespace Go.Proofs.YtddgabjhligeeaaGreat.mk
open Go.RowKit
attribute [local go_sem] Oper.semAt_some zbE zap
theorem zi2(w:World)(t:TypeId)(cs:List Value):Lies (w.alloc (.cells cs.toArray t)) (w.heap.size+1) (some ⟨w.heap.size,0,none⟩) cs:=fun j u h=>⟨_,rfl,Nat.lt_succ_self _,zT w t cs j u h⟩
theorem zdG{id:Nat}{Q:Exit->Act->World->Prop}(h:∀ a w,¬ Q .outgrown a w):¬ LetsOut (Exit.inBlock id Q):=by
  rintro⟨a,w,h2⟩
  exact h a w h2
end Go.Proofs.YtddgabjhligeeaaGreat.mk
