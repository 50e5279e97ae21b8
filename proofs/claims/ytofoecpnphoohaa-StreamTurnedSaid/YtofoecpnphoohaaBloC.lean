/- Layer 8: the document's Range and Right. -/
import Derived.Test.YtofoecpnphoohaaBloB
set_option linter.all false
namespace Go.Proofs.Ytofoecpnphoohaa
open Go.RowKit
namespace Blo

section
variable (w : World)
end
end Blo
end Go.Proofs.Ytofoecpnphoohaa
