/- Walks of package pack's Reader: each call said of the bytes, the place and the first fault. -/
import Derived.Test.YtlmaelbalmjlbaaOwn
import Derived.Test.YtlmaelbalmjlbaaPackM
import Derived.Test.YtlmaelbalmjlbaaClone
import Derived.Deep.RegionHeld3
import Derived.StillTailTactics
import Derived.Deep.QuietTactic
import Derived.Laws.Bits64b
set_option linter.all false
namespace Go.Proofs.Ytlmaelbalmjlbaa
open Go.RowKit

theorem or_step (a j c : Nat) (ha : a < 256 ^ j) (hj : j < 8) (hc : c < 256) : bits .or .u64 (a : Int) (IntKind.u64.wrap ((c : Int) * 2 ^ (8 * j))) = ((a + c * 256 ^ j : Nat) : Int) := by
  have hp : (2 : Int) ^ (8 * j) = ((256 ^ j : Nat) : Int) := by
    rw [show (256 : Nat) = 2 ^ 8 from rfl, ← Nat.pow_mul]
    simp
  have h7 : 256 ^ j ≤ 256 ^ 7 := Nat.pow_le_pow_right (by omega) (by omega)
  have h8 : c * 256 ^ j ≤ 255 * 256 ^ 7 := Nat.mul_le_mul (by omega) h7
  have e7 : 256 ^ 7 = 72057594037927936 := by decide
  rw [e7] at h7 h8
  have hw : IntKind.u64.wrap ((c : Int) * 2 ^ (8 * j)) = ((c * 256 ^ j : Nat) : Int) := by
    rw [hp, ← Int.natCast_mul, IntKind.wrap_u64]
    omega
  rw [hw, bits_or_u64_nat a (c * 256 ^ j) (by omega) (by omega)]
  have h2 := Nat.shiftLeft_add_eq_or_of_lt (b := a) (i := 8 * j) (by rw [Nat.pow_mul]; exact ha) c
  rw [Nat.shiftLeft_eq, Nat.pow_mul] at h2
  rw [Nat.or_comm, show (256 : Nat) = 2 ^ 8 from rfl, ← h2]
  omega

end Go.Proofs.Ytlmaelbalmjlbaa
