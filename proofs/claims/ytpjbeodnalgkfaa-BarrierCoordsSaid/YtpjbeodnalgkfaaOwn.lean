/- General words: what is done to one row, or one block, of the call's own. Nothing of the program is named here. -/
import Derived.Test.YtpjbeodnalgkfaaKit
set_option linter.all false
namespace Go.Proofs.Ytpjbeodnalgkfaa
open Go.RowKit

/-- v' is made of the row v: what was there, but v's own block, is as it was; v' lies in v's block or in new memory. -/
def After (w : World) (v : Value) (w' : World) (v' : Value) : Prop :=
  w.grownBy w' v.ownBlock ∧ (v'.ownBlock = v.ownBlock ∨ ∃ g, v'.ownBlock = some g ∧ w.heap.size ≤ g)
theorem grown_step {a b c : World} {row row' : Option Nat} (h : a.grownBy b row) (k : b.grownBy c row') (hr : ∀ j, row' = some j → a.heap.size ≤ j ∨ row = some j) : a.grownBy c row :=
  ⟨k.os.trans h.os, k.tape.trans h.tape, k.output.trans h.output, Nat.le_trans h.size k.size, fun i hi hne => by
    refine (k.block i (Nat.lt_of_lt_of_le hi h.size) ?_).trans (h.block i hi hne)
    intro e
    rcases hr i e.symm with h' | h'
    · omega
    · exact hne h'.symm⟩
theorem After.refl (w : World) (v : Value) : After w v w v := ⟨World.grownBy.refl w _, .inl rfl⟩
theorem After.trans {a b c : World} {v v' v'' : Value} (h : After a v b v') (k : After b v' c v'') : After a v c v'' := by
  refine ⟨grown_step h.1 k.1 fun j hj => ?_, ?_⟩
  · rcases h.2 with e | ⟨g, e, hg⟩
    · right; rw [← e]; exact hj
    · left; rw [e] at hj; injection hj with hj; omega
  · rcases k.2 with e | ⟨g, e, hg⟩
    · rcases h.2 with e' | ⟨g, e', hg⟩
      · left; rw [e, e']
      · right; exact ⟨g, by rw [e, e'], hg⟩
    · right; exact ⟨g, e, Nat.le_trans h.1.size hg⟩
/-- One append. -/
theorem After.app {w w' : World} {v v' : Value} (h : w.grownBy w' v.ownBlock) (k : v'.ownBlock = v.ownBlock ∨ v'.ownBlock = some w.heap.size) : After w v w' v' :=
  ⟨h, k.imp id fun e => ⟨_, e, Nat.le_refl _⟩⟩
theorem After.alloc {a w : World} {v v' : Value} (h : After a v w v') (o : Obj) : After a v (w.alloc o) v' :=
  ⟨grown_step h.1 (World.grownBy_alloc w o none) (fun j e => by cases e), h.2⟩
theorem below_grown {w w' : World} (h : Below w.heap.size w w') (row : Option Nat) : w.grownBy w' row := ⟨h.os, h.tape, h.output, h.size, fun k hk _ => h.block k hk⟩
theorem grown_below {w w' : World} {B : Nat} {row : Option Nat} (h : w.grownBy w' row) (hB : B ≤ w.heap.size) (hr : ∀ k, row = some k → B ≤ k) : Below B w w' := (Below.refl _ _).grown h hB hr
theorem grown_none_below {w w' : World} (h : w.grownBy w' none) : Below w.heap.size w w' := grown_below h (Nat.le_refl _) (by simp)
theorem After.below {w w' : World} {v v' : Value} {B : Nat} (h : After w v w' v') (hB : B ≤ w.heap.size) (hv : ∀ k, v.ownBlock = some k → B ≤ k) : Below B w w' := grown_below h.1 hB hv
/-- A row that lies wholly in other blocks reads as it did. -/
theorem Rd.grown {w w' : World} {row : Option Nat} {A : Option Addr} {sz n : Nat} {xs : List Value} (h : Rd w A sz n xs) (hg : w.grownBy w' row) (hne : ∀ a, A = some a → some a.block ≠ row) : Rd w' A sz n xs :=
  ⟨h.1, fun j u hu => by
    obtain ⟨b, o, e, hc⟩ := h.2 j u hu
    exact ⟨b, o, e, hg.cell hc (by have := hne _ e; simpa using this)⟩⟩
theorem Bs.grown {w w' : World} {row : Option Nat} {A : Option Addr} {n : Nat} {xs : List UInt8} (h : Bs w A n xs) (hg : w.grownBy w' row) (hne : ∀ a, A = some a → some a.block ≠ row) : Bs w' A n xs := Rd.grown h hg hne

theorem Bs.zero {w : World} {A : Option Addr} {n : Nat} {xs : List UInt8} (h : Bs w A n xs) (hA : A = none) : n = 0 := by
  cases xs with
  | nil => have := h.len; simpa using this
  | cons c cs => obtain ⟨b, o, e, _⟩ := h.2 0 _ rfl; rw [hA] at e; cases e

/-- Numbers of 64 bits, read. -/
def nvs (l : List Nat) : List Value := l.map fun (n : Nat) => Value.int .u64 (n : Int)
def Ns (w : World) (A : Option Addr) (n : Nat) (l : List Nat) : Prop := Rd w A 1 n (nvs l) ∧ ∀ z ∈ l, z < 18446744073709551616
theorem Ns.len {w : World} {A : Option Addr} {n : Nat} {l : List Nat} (h : Ns w A n l) : n = l.length := by
  have := h.1.1; simp [nvs] at this; omega
theorem Ns.below {w w' : World} {A : Option Addr} {n : Nat} {l : List Nat} (h : Ns w A n l) (hb : Below w.heap.size w w') : Ns w' A n l := ⟨Rd.below h.1 hb, h.2⟩
theorem Ns.grown {w w' : World} {row : Option Nat} {A : Option Addr} {n : Nat} {l : List Nat} (h : Ns w A n l) (hg : w.grownBy w' row) (hne : ∀ a, A = some a → some a.block ≠ row) : Ns w' A n l := ⟨h.1.grown hg hne, h.2⟩
theorem Ns.at_ {w : World} {A : Option Addr} {n : Nat} {l : List Nat} (h : Ns w A n l) {k : Nat} (hk : k < n) :
    ∃ b o, A = some ⟨b, o, none⟩ ∧ ∃ hx : k < l.length, w.cell? ⟨b, o + k, none⟩ = some (.int .u64 ((l[k]'hx : Nat) : Int)) ∧ l[k]'hx < 18446744073709551616 := by
  obtain ⟨b, o, e, hx, hc⟩ := Rd.at_ h.1 hk
  have hx' : k < l.length := by simpa [nvs] using hx
  exact ⟨b, o, e, hx', by simpa [nvs] using hc, h.2 _ (List.getElem_mem hx')⟩
theorem Ns.drew {w : World} {A : Option Addr} {n : Nat} {l : List Nat} (h : Ns w A n l) : Ns w.drew A n l := h
theorem Ns.alloc {w : World} {A : Option Addr} {n : Nat} {l : List Nat} (h : Ns w A n l) (o : Obj) : Ns (w.alloc o) A n l := ⟨Rd.alloc h.1 o, h.2⟩
theorem Ns.nil {w : World} {A : Option Addr} : Ns w A 0 [] := ⟨⟨by simp [nvs], by simp [nvs]⟩, by simp⟩
theorem Ns.new (w : World) (l : List Nat) (h : ∀ z ∈ l, z < 18446744073709551616) (t : TypeId) {g : Nat} (hg : g = w.heap.size) {C : Array Value} (hC : C = (nvs l).toArray) {n : Nat} (hn : n = l.length) : Ns (w.alloc (.cells C t)) (some ⟨g, 0, none⟩) n l := by
  subst hg hC hn
  have := Rd.new w (nvs l).toArray t (0, 0) (sz := 1) (n := l.length) (by simp [nvs])
  exact ⟨by simpa using this, h⟩

/-- Block b is just these cells, and may be written. -/
def Blk (w : World) (b : Nat) (t : TypeId) (cs : Array Value) : Prop := w.heap[b]? = some (.cells cs t (0, 0))
theorem Blk.lt {w : World} {b : Nat} {t : TypeId} {cs : Array Value} (h : Blk w b t cs) : b < w.heap.size := (Array.getElem?_eq_some_iff.1 h).1
theorem Blk.below {w w' : World} {b : Nat} {t : TypeId} {cs : Array Value} (h : Blk w b t cs) {B : Nat} (hb : Below B w w') (hB : b < B) : Blk w' b t cs := (hb.block b hB).trans h
theorem Blk.keep {w w' : World} {b : Nat} {t : TypeId} {cs : Array Value} (h : Blk w b t cs) (hb : Below w.heap.size w w') : Blk w' b t cs := h.below hb h.lt
theorem Blk.grown {w w' : World} {b : Nat} {t : TypeId} {cs : Array Value} {row : Option Nat} (h : Blk w b t cs) (hg : w.grownBy w' row) (hne : some b ≠ row) : Blk w' b t cs := (hg.block b h.lt hne).trans h
theorem Blk.cell {w : World} {b : Nat} {t : TypeId} {cs : Array Value} (h : Blk w b t cs) {j : Nat} {u : Value} (hu : cs[j]? = some u) : w.cell? ⟨b, j, none⟩ = some u := by
  unfold World.cell?
  simp only [show w.heap[b]? = _ from h]
  simpa using hu
theorem Blk.free {w : World} {b : Nat} {t : TypeId} {cs : Array Value} (h : Blk w b t cs) (j : Nat) : w.frozen? ⟨b, j, none⟩ = false := by
  unfold World.frozen?
  simp only [show w.heap[b]? = _ from h]
  simp
theorem Blk.new (w : World) (t : TypeId) (cs : Array Value) {g : Nat} (hg : g = w.heap.size) : Blk (w.alloc (.cells cs t)) g t cs := by subst hg; exact heap_alloc_new w _
theorem Blk.alloc {w : World} {b : Nat} {t : TypeId} {cs : Array Value} (h : Blk w b t cs) (o : Obj) : Blk (w.alloc o) b t cs := h.keep ((Below.refl _ _).alloc (Nat.le_refl _) o)
theorem Blk.setCell {w : World} {b : Nat} {t : TypeId} {cs : Array Value} (h : Blk w b t cs) (j : Nat) (u : Value) : Blk (w.setCell ⟨b, j, none⟩ u) b t (cs.setIfInBounds j u) := by
  unfold Blk at *
  simp only [World.setCell, Array.getElem?_modify, h, if_true, Option.map_some]
  rfl
theorem grown_setCell (w : World) (p : Addr) (u : Value) : w.grownBy (w.setCell p u) (some p.block) :=
  ⟨rfl, rfl, rfl, by simp [World.setCell], fun k _ hk => Below.heap_setCell _ _ _ _ (fun e => hk (by rw [e]))⟩
/-- A block of bytes reads as these. -/
theorem bs_blk {w : World} {g : Nat} {t : TypeId} {xs : List UInt8} (h : Blk w g t (bvs xs).toArray) : Bs w (some ⟨g, 0, none⟩) xs.length xs :=
  ⟨by simp [bvs], fun j u hu => ⟨g, 0, rfl, by rw [Nat.zero_add]; exact h.cell (by simpa using hu)⟩⟩
end Go.Proofs.Ytpjbeodnalgkfaa
