/- Walks of package pack's Writer: add, Put, Part, Bytes; each said of bytes. -/
import Derived.Test.YtlmaelbalmjlbaaPackWa
import Derived.Laws.CopyOwn
import Derived.Deep.OwnRows
set_option linter.all false
namespace Go.Proofs.Ytlmaelbalmjlbaa
open Go.RowKit

def chainBytes : List (List UInt8) → List UInt8
  | [] => []
  | p :: ps => chainBytes ps ++ p
theorem madeList (z : Value) (n : Nat) : (madeCells #[z] n).toList = List.replicate n z := by
  apply List.ext_getElem?
  intro j
  by_cases h : j < n
  · simp [madeCells, h, Nat.mod_one]
  · simp [madeCells, h]

end Go.Proofs.Ytlmaelbalmjlbaa
