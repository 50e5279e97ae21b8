/- Layer 17: both coordinators beside each other -/
import Derived.Test.YtpjbeodnalgkfaaBarRj
import Derived.Test.YtpjbeodnalgkfaaBarRd
import Derived.Test.YtpjbeodnalgkfaaBarRk
import Derived.Test.YtpjbeodnalgkfaaBarG
set_option linter.all false
namespace Go.Proofs.Ytpjbeodnalgkfaa
open Go.RowKit
namespace Bar
theorem quiet_bar {f : FuncId} {args : Array Value} {w : World} {n : Nat} {v : Value} (h : Calls Try.prog f args (w.drewN n) fun e w' => e = .returned v ∧ w.drewN n = w') : Calls Try.prog f args (w.drewN n) fun e w'' => e = .returned v ∧ ∃ m, w'' = w.drewN m :=
  h.mono fun _ _ ⟨he, hm⟩ => ⟨he, n, hm.symm⟩
theorem Rc.out {w : World} {b : Nat} {U : Nat → Prop} {c : Co} (h : Rc w b U c) : ¬ U b := by
  obtain ⟨g, A1, n1, c1, A2, n2, c2, h⟩ := h; exact h.out
theorem Cd.out {w : World} {g : Nat} {U : Nat → Prop} {c : Co} (h : Cd w g U c) : ¬ U g ∧ ¬ U (g + 1) := by
  obtain ⟨⟨A, n, cp, h⟩, _⟩ := h; exact h.out
/-- The coordinator (at a, state s) and the document's (at b, state r); P: blocks that neither writes. -/
structure TwX (W : World) (a b : Nat) (P : Nat → Prop) (s r : Co) (Uc Ur : Nat → Prop) : Prop where
  c : Cd W a Uc s
  r : Rc W b Ur r
  dis : ∀ k, Uc k → ¬ Ur k ∧ k ≠ b
  low : ∀ k, Ur k → a + 2 ≤ k
  lb : a + 2 ≤ b
  pr : ∀ k, P k → ¬ Ur k ∧ k ≠ b ∧ a + 2 ≤ k ∧ k < W.heap.size
def Tw (W : World) (a b : Nat) (P : Nat → Prop) (s r : Co) : Prop := ∃ Uc Ur, TwX W a b P s r Uc Ur
def Kp (P : Nat → Prop) (W W' : World) : Prop := ∀ p u, P p.block → W.cell? p = some u → W'.cell? p = some u
section
variable {W W' : World} {a b : Nat} {P : Nat → Prop} {s r s' r' : Co}
theorem Tw.keep (h : Tw W a b P s r) (hb : Below W.heap.size W W') : Tw W' a b P s r := by
  obtain ⟨Uc, Ur, h⟩ := h
  have hs := hb.size
  refine ⟨Uc, Ur, h.c.fu (S := fun _ => False) (Fu.ofBelow hb) (fun _ _ e => e) (fun e => e) (fun e => e), h.r.keep hb, h.dis, h.low, h.lb, fun k hk => ?_⟩
  obtain ⟨q1, q2, q3, q4⟩ := h.pr k hk
  exact ⟨q1, q2, q3, by omega⟩
theorem Tw.size (h : Tw W a b P s r) : a + 2 ≤ W.heap.size := by
  obtain ⟨Uc, Ur, h⟩ := h
  have := h.lb
  have := h.r.lt
  omega
theorem Tw.fresh (h : Tw W a b P s r) (hb : Below W.heap.size W W') (hl : W.heap.size < W'.heap.size) : Tw W' a b (fun k => k = W.heap.size) s r := by
  have hs := h.size
  obtain ⟨Uc, Ur, h⟩ := h
  have hbl := h.r.lt
  refine ⟨Uc, fun k => Ur k ∧ k < W.heap.size, h.c.fu (S := fun _ => False) (Fu.ofBelow hb) (fun _ _ e => e) (fun e => e) (fun e => e), (h.r.sub (fun k hk hl => ⟨hk, hl⟩) (fun q => h.r.out q.1)).keep hb, fun k hk => ⟨fun q => (h.dis k hk).1 q.1, (h.dis k hk).2⟩, fun k hk => h.low k hk.1, h.lb, fun k hk => ?_⟩
  exact ⟨fun q => by omega, by omega, by omega, by omega⟩
theorem Tw.few (h : Tw W a b P s r) : Few s := by obtain ⟨Uc, Ur, h⟩ := h; exact h.c.2.2
theorem Tw.ok (h : Tw W a b P s r) : CoOk s := by obtain ⟨Uc, Ur, h⟩ := h; exact h.c.2.1
theorem tw_c {f : FuncId} {args : Array Value} {X : Ending} (h : Tw W a b P s r) (hc : ∀ Uc, Cd W a Uc s → Calls Try.prog f args W fun e w' => e = X ∧ CdA W w' a Uc s') :
    Calls Try.prog f args W fun e w' => e = X ∧ Tw w' a b P s' r ∧ Kp P W w' ∧ Below a W w' := by
  have hs := h.size
  obtain ⟨Uc, Ur, h⟩ := h
  have hbl := h.r.lt
  refine (hc Uc h.c).mono ?_
  rintro e w' ⟨he, hC, hF⟩
  have hsz := hF.size
  have hlb := h.lb
  refine ⟨he, ⟨_, fun k => Ur k ∧ k < W.heap.size, hC, (h.r.sub (U' := fun k => Ur k ∧ k < W.heap.size) (fun k hk hl => ⟨hk, hl⟩) (fun q => h.r.out q.1)).fu hF (fun k hk q => by have := h.low k hk.1; omega) (by omega), ?_, fun k hk => h.low k hk.1, h.lb, fun k hk => ?_⟩, fun p u hp hu => fu_cell hF hu (fun q => by have := (h.pr _ hp).2.2.1; omega), hF.below (by omega) (fun j q => by omega)⟩
  · intro k hk
    rcases hk with hk | hk
    · exact ⟨fun q => (h.dis k hk).1 q.1, (h.dis k hk).2⟩
    · exact ⟨fun q => by omega, by omega⟩
  · obtain ⟨q1, q2, q3, q4⟩ := h.pr k hk
    exact ⟨fun q => q1 q.1, q2, q3, by omega⟩
theorem tw_r {f : FuncId} {args : Array Value} {X : Ending} (h : Tw W a b P s r) (hc : ∀ Ur, Rc W b Ur r → Calls Try.prog f args W fun e w' => e = X ∧ RcA W w' b Ur r') :
    Calls Try.prog f args W fun e w' => e = X ∧ Tw w' a b P s r' ∧ Kp P W w' ∧ Below a W w' := by
  have hs := h.size
  obtain ⟨Uc, Ur, h⟩ := h
  have hbl := h.r.lt
  refine (hc Ur h.r).mono ?_
  rintro e w' ⟨he, hR, hF⟩
  have hsz := hF.size
  have hlb := h.lb
  have nU : ∀ k, k < a + 2 → ¬ (k = b ∨ Ur k) := fun k hk q => q.elim (fun q => by omega) (fun q => by have := h.low k q; omega)
  refine ⟨he, ⟨fun k => Uc k ∧ k < W.heap.size, _, (h.c.sub (U' := fun k => Uc k ∧ k < W.heap.size) (fun k hk hl => ⟨hk, hl⟩) ⟨fun q => h.c.out.1 q.1, fun q => h.c.out.2 q.1⟩).fu hF (fun k hk q => q.elim (h.dis k hk.1).2 (h.dis k hk.1).1) (nU a (by omega)) (nU (a + 1) (by omega)), hR, ?_, ?_, h.lb, fun k hk => ?_⟩, fun p u hp hu => fu_cell hF hu (fun q => q.elim (h.pr _ hp).2.1 (h.pr _ hp).1), hF.below (by omega) (fun j q => ?_)⟩
  · intro k hk
    exact ⟨fun q => q.elim (h.dis k hk.1).1 (fun q => by have := hk.2; omega), (h.dis k hk.1).2⟩
  · intro k hk
    exact hk.elim (h.low k) (fun q => by omega)
  · obtain ⟨q1, q2, q3, q4⟩ := h.pr k hk
    exact ⟨fun q => q.elim q1 (fun q => by omega), q2, q3, by omega⟩
  · exact q.elim (fun q => by omega) (fun q => by have := h.low j q; omega)
end
end Bar
end Go.Proofs.Ytpjbeodnalgkfaa
