/- Layer 15: Pack. -/
import Derived.Test.YtlmaelbalmjlbaaNetA
set_option linter.all false
namespace Go.Proofs.Ytlmaelbalmjlbaa
open Go.RowKit
namespace Net
open Str (far sealL)
theorem own_blk {w : World} {g base n : Nat} {e : TypeId} {xs : List UInt8} (h : Blk w g e (bvs xs).toArray) (hb : base ≤ g) (hn : n = xs.length) (hm : n ≤ maxLen) : w.ownsRow base e 1 (.slice (some ⟨g, 0, none⟩) n n) n (bvs xs) :=
  ⟨by rw [bvs_length, hn, Nat.mul_one], .inr ⟨g, n, _, rfl, hb, h, Nat.le_refl _, hm, by simp [bvs, hn], by rw [Nat.mul_one]; exact List.take_of_length_le (by simp [bvs, hn])⟩⟩
theorem one_part (d : List UInt8) : partsBytes [d] = partBytes d := by simp [partsBytes]
/-- The numbers of a message, as they are converted. -/
theorem nat_heads {m : Ms} (h : MayM m) : ∃ a b c d e f : Nat, m = ⟨a, b, c, d, e, f, m.d⟩ ∧ a < 16 ∧ b < 16 ∧ c ≤ 2147483648 ∧ d ≤ 2147483648 ∧ e ≤ 2147483648 ∧ f ≤ 2147483648 ∧ heads m = [a, b, c, d, e, f] := by
  obtain ⟨⟨a1, a2⟩, ⟨b1, b2⟩, ⟨c1, c2⟩, ⟨d1, d2⟩, ⟨e1, e2⟩, ⟨f1, f2⟩, _⟩ := h
  refine ⟨m.fr.toNat, m.to.toNat, m.k.toNat, m.ep.toNat, m.sq.toNat, m.ac.toNat, ?_, by omega, by omega, by omega, by omega, by omega, by omega, rfl⟩
  cases m
  simp only [Ms.mk.injEq, and_true] at *
  omega
section
variable (w : World)
end
end Net
end Go.Proofs.Ytlmaelbalmjlbaa
