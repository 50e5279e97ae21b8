/- Layer 15: whether two messages are the same: the program's answer. -/
import Derived.Test.YtlmaelbalmjlbaaNetA
set_option linter.all false
namespace Go.Proofs.Ytlmaelbalmjlbaa
open Go.RowKit
namespace Net
theorem same_is (a b : Ms) : decide (a = b) = ((a.fr == b.fr) && (a.to == b.to) && (a.k == b.k) && (a.ep == b.ep) && (a.sq == b.sq) && (a.ac == b.ac) && (a.d == b.d)) := by
  have h : ∀ c : Bool, ∀ p : Prop, [Decidable p] → (p ↔ c = true) → decide p = c := by
    intro c p _ hp
    cases c with
    | true => exact decide_eq_true (hp.2 rfl)
    | false => exact decide_eq_false (fun h => by cases hp.1 h)
  refine h _ _ ?_
  simp only [Bool.and_eq_true, beq_iff_eq]
  constructor
  · rintro rfl; simp
  · rintro ⟨⟨⟨⟨⟨⟨h1, h2⟩, h3⟩, h4⟩, h5⟩, h6⟩, h7⟩
    cases a; cases b; simp_all
section
variable (w : World)
end
end Net
end Go.Proofs.Ytlmaelbalmjlbaa
