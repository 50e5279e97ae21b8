/- Proves EmapOwn of layer 6 (emap), for every input, with no condition: lists are not turned, and what was answered may be written over. -/
import Derived.Test.YtiehhmchokbafaaEmpW
set_option linter.all false
namespace Go.Proofs.Ytiehhmchokbafaa
open Go.ChangeShapes Go.WideShapes Go.ChangeAt Go.RowKit

/-- A slice whose cells are the call's own, in new memory from B on, whatever they hold. -/
def Mine (w : World) (B : Nat) (A : Option Addr) (m : Nat) : Prop := m = 0 ∨ ∃ g cap cur, A = some ⟨g, 0, none⟩ ∧ B ≤ g ∧ Blk w g 24 cur ∧ m ≤ cap ∧ cur.size = cap * 4
theorem mine_of {w : World} {B : Nat} {A : Option Addr} {m c : Nat} {l : List Ext} (h : Got w B A m c l) : Mine w B A m := by
  rcases h.own.2 with ⟨_, h0⟩ | ⟨g, cap, cur, hv, hg, hh, hnc, hcm, hcs, hx⟩
  · exact .inl h0
  · injection hv with hA _ _
    exact .inr ⟨g, cap, cur, hA, hg, hh, hnc, hcs⟩
theorem Mine.keep {w w' : World} {B : Nat} {A : Option Addr} {m : Nat} (h : Mine w B A m) (hb : Below w.heap.size w w') : Mine w' B A m :=
  h.imp id fun ⟨g, cap, cur, h1, h2, h3, h4⟩ => ⟨g, cap, cur, h1, h2, h3.keep hb, h4⟩
theorem Mine.set {w : World} {B : Nat} {A : Option Addr} {m g o : Nat} {cur : Array Value} {vs : List Value} (h : Mine w B A m) (hb : Blk w g 24 cur) (hv : o + vs.length ≤ cur.size) : Mine (w.setCells g o vs) B A m := by
  rcases h with h | ⟨g', cap, cur', h1, h2, h3, h4, h5⟩
  · exact .inl h
  · right
    by_cases e : g' = g
    · subst e
      have h3' : w.heap[g']? = some (.cells cur' 24 (0, 0)) := h3
      have hb' : w.heap[g']? = some (.cells cur 24 (0, 0)) := hb
      rw [h3'] at hb'
      injection hb' with hb'
      injection hb' with hc
      subst hc
      exact ⟨g', cap, _, h1, h2, h3.sets hv, h4, by simp; omega⟩
    · exact ⟨g', cap, cur', h1, h2, (Tn.sets (lo := g) (hi := g + 1) (Nat.le_refl _) (Nat.lt_succ_self _) vs o w).blk h3 (by omega), h4, h5⟩
abbrev Rows3 : Type := List (Option Addr × Nat × Nat)
def slicesOf (R : Rows3) : Array Value := (R.map fun r => Value.slice r.1 r.2.1 r.2.2).toArray
/-- Behind some cells' being written over. -/
structure Over (w : World) (B : Nat) (R : Rows3) (gs : Nat) : Prop where
  mine : ∀ r ∈ R, Mine w B r.1 r.2.1
  list : Blk w gs 42 (slicesOf R)
theorem Over.set {w : World} {B : Nat} {R : Rows3} {gs g o : Nat} {cur : Array Value} {vs : List Value} (h : Over w B R gs) (hb : Blk w g 24 cur) (hv : o + vs.length ≤ cur.size) : Over (w.setCells g o vs) B R gs := by
  refine ⟨fun r hr => (h.mine r hr).set hb hv, (Tn.sets (lo := g) (hi := g + 1) (Nat.le_refl _) (Nat.lt_succ_self _) vs o w).blk h.list ?_⟩
  have hne : gs ≠ g := by
    intro e
    subst e
    have h1 : w.heap[gs]? = _ := h.list
    have h2 : w.heap[gs]? = _ := hb
    rw [h1] at h2
    simp at h2
  omega
theorem Over.at_ {w : World} {B : Nat} {R : Rows3} {gs j : Nat} (h : Over w B R gs) (hj : j < R.length) : w.cell? ⟨gs, j, none⟩ = some (.slice R[j].1 R[j].2.1 R[j].2.2) :=
  h.list.cell (by simp [slicesOf, hj])
theorem eo_zero {w : World} {B m : Nat} {A : Option Addr} {c : Nat} {l : List Ext} (h : Eo w B (.slice A m c) m l) : ∀ j, (Value.slice A m c).ownBlock = some j → j < w.heap.size := fun j hj => (h.lt j hj).2

end Go.Proofs.Ytiehhmchokbafaa
