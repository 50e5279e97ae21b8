/- Layer 15: messages as they lie in memory; fit, may; both equalities. -/
import Derived.Test.YtlmaelbalmjlbaaNetN
import Derived.Test.YtlmaelbalmjlbaaTurn
import Derived.Test.YtlmaelbalmjlbaaFn
import Derived.Test.YtlmaelbalmjlbaaStep
import Derived.Test.YtlmaelbalmjlbaaSumWb
import Derived.Test.YtlmaelbalmjlbaaPackT
import Derived.Test.YtlmaelbalmjlbaaPackWb
import Derived.Deep.RegionHeld3
import Derived.Deep.RegionLaw
import Derived.BigQuiet
set_option linter.all false
namespace Go.Proofs.Ytlmaelbalmjlbaa
open Go.RowKit
namespace Net
open Str (far)

def I64 (z : Int) : Prop := -9223372036854775808 ≤ z ∧ z ≤ 9223372036854775807
/-! ### rows of ints -/
def ivs (l : List Int) : List Value := l.map fun z => Value.int .i64 z
def Is (w : World) (A : Option Addr) (n : Nat) (l : List Int) : Prop := Rd w A 1 n (ivs l) ∧ ∀ z ∈ l, I64 z
theorem Is.len {w : World} {A : Option Addr} {n : Nat} {l : List Int} (h : Is w A n l) : n = l.length := by
  have := h.1.1; simp [ivs] at this; omega
theorem Is.get {w : World} {A : Option Addr} {n : Nat} {l : List Int} (h : Is w A n l) {k : Nat} (hk : k < n) : ∃ b o x, A = some ⟨b, o, none⟩ ∧ l[k]? = some x ∧ I64 x ∧ w.cell? ⟨b, o + k, none⟩ = some (.int .i64 x) := by
  obtain ⟨b, o, e, hx, hc⟩ := Rd.at_ h.1 hk
  have hx' : k < l.length := by simpa [ivs] using hx
  exact ⟨b, o, l[k], e, List.getElem?_eq_getElem hx', h.2 _ (List.getElem_mem hx'), by simpa [ivs] using hc⟩
theorem Is.new (w : World) (l : List Int) (h : ∀ z ∈ l, I64 z) (t : TypeId) {g : Nat} (hg : g = w.heap.size) {C : Array Value} (hC : C = (ivs l).toArray) {n : Nat} (hn : n = l.length) : Is (w.alloc (.cells C t)) (some ⟨g, 0, none⟩) n l := by
  subst hg hC hn
  have := Rd.new w (ivs l).toArray t (0, 0) (sz := 1) (n := l.length) (by simp [ivs])
  exact ⟨by simpa using this, h⟩
theorem Is.below {w w' : World} {A : Option Addr} {n : Nat} {l : List Int} (h : Is w A n l) (hb : Below w.heap.size w w') : Is w' A n l := ⟨Rd.below h.1 hb, h.2⟩
def okB (most : Int) (z : Int) : Bool := decide (0 ≤ z ∧ z ≤ most)
theorem drop_of {α : Type} {l : List α} {k : Nat} {x : α} (h : l[k]? = some x) : l.drop k = x :: l.drop (k + 1) := by
  obtain ⟨hk, rfl⟩ := List.getElem?_eq_some_iff.1 h
  exact List.drop_eq_getElem_cons hk
theorem all_at {α : Type} {p : α → Bool} {l : List α} {k : Nat} {x : α} (h : l[k]? = some x) : (l.drop k).all p = (p x && (l.drop (k + 1)).all p) := by
  rw [drop_of h, List.all_cons]
section
variable (w : World)
end

/-! ### messages in memory -/
structure FitS (m : Ms) : Prop where
  fr : I64 m.fr
  to : I64 m.to
  k : I64 m.k
  ep : I64 m.ep
  sq : I64 m.sq
  ac : I64 m.ac
abbrev ma (m : Ms) (v : Value) : Array Value := #[.int .i64 m.fr, .int .i64 m.to, .int .i64 m.k, .int .i64 m.ep, .int .i64 m.sq, .int .i64 m.ac, v]
/-- The message's struct, whose load is the slice '.slice X n c'. -/
structure Mdt (w : World) (m : Ms) (X : Option Addr) (n c : Nat) : Prop where
  bs : Bs w X n m.d
  nil : X = none → n = 0 ∧ c = 0
  le : n ≤ c
  cap : c ≤ 9223372036854775807
  far : n ≤ 140737488351300
  fit : FitS m
theorem Mdt.len {w : World} {m : Ms} {X : Option Addr} {n c : Nat} (h : Mdt w m X n c) : n = m.d.length := h.bs.len
theorem Mdt.below {w w' : World} {m : Ms} {X : Option Addr} {n c : Nat} (h : Mdt w m X n c) (hb : Below w.heap.size w w') : Mdt w' m X n c := ⟨h.bs.below hb, h.nil, h.le, h.cap, h.far, h.fit⟩
theorem Mdt.grown {w w' : World} {row : Option Nat} {m : Ms} {X : Option Addr} {n c : Nat} (h : Mdt w m X n c) (hg : w.grownBy w' row) (hne : ∀ a, X = some a → some a.block ≠ row) : Mdt w' m X n c := ⟨h.bs.grown hg hne, h.nil, h.le, h.cap, h.far, h.fit⟩
theorem zfit : FitS zM := by constructor <;> (unfold I64 zM; decide)
theorem MayM.fits {m : Ms} (h : MayM m) : FitS m := by
  obtain ⟨⟨a1, a2⟩, ⟨b1, b2⟩, ⟨c1, c2⟩, ⟨d1, d2⟩, ⟨e1, e2⟩, ⟨f1, f2⟩, _⟩ := h
  constructor <;> (unfold I64; omega)
theorem may_is (m : Ms) : decide (MayM m) = ([m.fr, m.to].all (okB 15) && [m.k, m.ep, m.sq, m.ac].all (okB 2147483648) && decide (m.d.length ≤ 1200)) := by
  have h : ∀ a : Bool, ∀ p : Prop, [Decidable p] → (p ↔ a = true) → decide p = a := by
    intro a p _ hp
    cases a with
    | true => exact decide_eq_true (hp.2 rfl)
    | false => exact decide_eq_false (fun h => by cases hp.1 h)
  refine h _ _ ?_
  simp only [List.all_cons, List.all_nil, okB, Bool.and_true, Bool.and_eq_true, decide_eq_true_eq, MayM, Str.far]
  omega
/-- A message's cells in a block. -/
theorem ma_blk {w : World} {b : Nat} {t : TypeId} {m : Ms} {v : Value} (h : Blk w b t (ma m v)) :
    w.cell? ⟨b, 0, none⟩ = some (.int .i64 m.fr) ∧ w.cell? ⟨b, 1, none⟩ = some (.int .i64 m.to) ∧ w.cell? ⟨b, 2, none⟩ = some (.int .i64 m.k) ∧ w.cell? ⟨b, 3, none⟩ = some (.int .i64 m.ep) ∧ w.cell? ⟨b, 4, none⟩ = some (.int .i64 m.sq) ∧ w.cell? ⟨b, 5, none⟩ = some (.int .i64 m.ac) ∧ w.cell? ⟨b, 6, none⟩ = some v :=
  ⟨h.cell rfl, h.cell rfl, h.cell rfl, h.cell rfl, h.cell rfl, h.cell rfl, h.cell rfl⟩
section
variable (w : World)
end
end Net
end Go.Proofs.Ytlmaelbalmjlbaa
