/- Whether bytes are the same, as the answers of the document ask it. -/
import Derived.Test.YtlmaelbalmjlbaaByt
set_option linter.all false
namespace Go.Proofs.Ytlmaelbalmjlbaa
open Go.RowKit

set_option maxRecDepth 100000 in
set_option maxHeartbeats 400000 in
theorem same_ (A B : Option Addr) (n c m d : Nat) (xs ys : List UInt8) (w : World) (hx : Bs w A n xs) (hy : Bs w B m ys) (hA : A = none → n = 0) (hB : B = none → m = 0) :
    Calls Try.prog 19 #[.slice A n c, .slice B m d] w fun e w' => e = .returned (.bool (xs == ys)) ∧ w = w' := by
  have k1 := run_str hx hA 34 9 5 Try.underlying34 Try.underlying5 Try.underlying9 c
  have k2 := run_str hy hB 34 9 5 Try.underlying34 Try.underlying5 Try.underlying9 d
  go_enter Try.func19, Try.ntmps19
  go_wp2
  go_ret
  exact ⟨rfl, rfl⟩
end Go.Proofs.Ytlmaelbalmjlbaa
