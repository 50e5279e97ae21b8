/- Walks of package pack's Reader, more: Get, Int, Part, End, At, Left, Fault, New. -/
import Derived.Test.YtlmaelbalmjlbaaPackR
set_option linter.all false
namespace Go.Proofs.Ytlmaelbalmjlbaa
open Go.RowKit

/-- The place, and the first fault. -/
structure RS where
  p : Nat
  e : Nat
  f : Nat
def rGet (xs : List UInt8) (s : RS) : Nat × RS := if s.e ≠ 0 then (0, s) else if xs.length < s.p + 8 then (0, ⟨s.p, 3, xs.length⟩) else (numAt (xs.drop s.p), ⟨s.p + 8, 0, 0⟩)
def rInt (xs : List UInt8) (most : Int) (s : RS) : Nat × RS :=
  if s.e ≠ 0 then (0, s) else if xs.length < s.p + 8 then (0, ⟨s.p, 3, xs.length⟩) else
  if most < (numAt (xs.drop s.p) : Int) then (0, ⟨s.p, 6, s.p⟩) else (numAt (xs.drop s.p), ⟨s.p + 8, 0, 0⟩)
def rPart (xs : List UInt8) (s : RS) : List UInt8 × RS :=
  if s.e ≠ 0 then ([], s) else if xs.length < s.p + 8 then ([], ⟨s.p, 3, xs.length⟩) else
  if 2147483648 < numAt (xs.drop s.p) then ([], ⟨s.p, 6, s.p⟩) else if xs.length < s.p + 8 + numAt (xs.drop s.p) then ([], ⟨s.p, 3, xs.length⟩) else
  ((xs.drop (s.p + 8)).take (numAt (xs.drop s.p)), ⟨s.p + 8 + numAt (xs.drop s.p), 0, 0⟩)
def rEnd (xs : List UInt8) (s : RS) : RS := if s.e ≠ 0 then s else if s.p < xs.length then ⟨s.p, 16, s.p⟩ else s
theorem grown_drewN {w w' : World} {row : Option Nat} (h : w.grownBy w' row) (k : Nat) : w.grownBy (w'.drewN k) row := ⟨h.os, h.tape, h.output, h.size, h.block⟩
theorem grown_of_drewN {w w' : World} {row : Option Nat} {k : Nat} (h : (w.drewN k).grownBy w' row) : w.grownBy w' row := ⟨h.os, h.tape, h.output, h.size, h.block⟩

end Go.Proofs.Ytlmaelbalmjlbaa
