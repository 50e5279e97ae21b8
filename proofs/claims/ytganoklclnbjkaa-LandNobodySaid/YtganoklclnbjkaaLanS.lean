/- Layer 11: the document's May. -/
import Derived.Test.YtganoklclnbjkaaLanR1
import Derived.Test.YtganoklclnbjkaaLanR2
import Derived.Test.YtganoklclnbjkaaLanR3
import Derived.Test.YtganoklclnbjkaaLanR4
import Derived.BigRegion
set_option linter.all false
namespace Go.Proofs.Ytganoklclnbjkaa
open Go.RowKit
namespace Lan
open Str (Rec mayB opOf FitR Rdt Rcl ra oa k4 k8 rc_blk farB zeroB)
open Blo (I64 apL apE GotN AnsN)
section
variable (w : World)
/-- The document's May. -/
theorem rmay_ (r : Rec) (X : Option Addr) (m c : Nat) (h : Rdt w r X m c) : Calls Try.prog 21 #[.agg (ra r (.slice X m c))] w fun e w' => e = .returned (.bool (mayB r)) ∧ Below w.heap.size w w' := by
  by_cases h1 : r.k = 1
  · exact rmay1_ w r X m c h h1
  · by_cases h2 : r.k = 2
    · exact rmay2_ w r X m c h h2
    · by_cases h3 : r.k = 3
      · exact rmay3_ w r X m c h h3
      · by_cases h4 : r.k = 4
        · exact rmay4_ w r X m c h h4
        · exact rmay5_ w r X m c h h1 h2 h3 h4
end
end Lan
end Go.Proofs.Ytganoklclnbjkaa
