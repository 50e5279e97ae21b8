/- Whether bytes are the same, as the answers of the document ask it. -/
import Derived.Test.YtallbhdfbkkjkaaByt
set_option linter.all false
namespace Go.Proofs.Ytallbhdfbkkjkaa
open Go.RowKit

set_option maxRecDepth 100000 in
set_option maxHeartbeats 400000 in
theorem same_ (A B : Option Addr) (n c m d : Nat) (xs ys : List UInt8) (w : World) (hx : Bs w A n xs) (hy : Bs w B m ys) (hA : A = none → n = 0) (hB : B = none → m = 0) :
    Calls Try.prog 13 #[.slice A n c, .slice B m d] w fun e w' => e = .returned (.bool (xs == ys)) ∧ w = w' := by
  have k1 := run_str hx hA 22 9 5 Try.underlying22 Try.underlying5 Try.underlying9 c
  have k2 := run_str hy hB 22 9 5 Try.underlying22 Try.underlying5 Try.underlying9 d
  go_enter Try.func13, Try.ntmps13
  go_wp2
  go_ret
  exact ⟨rfl, rfl⟩
end Go.Proofs.Ytallbhdfbkkjkaa
