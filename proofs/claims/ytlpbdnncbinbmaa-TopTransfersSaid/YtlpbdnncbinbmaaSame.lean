/- Whether bytes are the same, as the answers of the document ask it. -/
import Derived.Test.YtlpbdnncbinbmaaByt
namespace Go.Proofs.Ytlpbdnncbinbmaa
open Go.RowKit

end Go.Proofs.Ytlpbdnncbinbmaa
