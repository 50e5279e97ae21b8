/- Layer 17: what another set is kept from. -/
import Derived.Test.YtpjbeodnalgkfaaBarAl
set_option linter.all false
namespace Go.Proofs.Ytpjbeodnalgkfaa
open Go.RowKit
namespace Bar
theorem WmX.prot' {w : World} {B wb cg : Nat} {P P' : Nat → Prop} {gs : Nat → Nat} {av ov xv iv : Value} {W : Wd} (h : WmX w B P wb cg gs av ov xv iv W) (hp : ∀ k, P' k → ¬ Kn wb cg gs W.g.length av ov xv iv k ∧ k < w.heap.size) : WmX w B P' wb cg gs av ov xv iv W :=
  ⟨h.blk, h.co, h.ag, h.inj, h.ptrs, h.os, h.ax, h.ids, h.low, hp⟩
end Bar
end Go.Proofs.Ytpjbeodnalgkfaa
