/- Walks of package pack's Reader, the rest: End, At, Left, Fault, New, and a nil Reader. -/
import Derived.Test.YtlmaelbalmjlbaaPackS
set_option linter.all false
namespace Go.Proofs.Ytlmaelbalmjlbaa
open Go.RowKit

end Go.Proofs.Ytlmaelbalmjlbaa
