/- Layer 8: ops and rows of numbers as they lie in memory; which ops may be, and what they are about. -/
import Derived.Test.YtdcggnfplfgcnaaBloM
import Derived.Test.YtdcggnfplfgcnaaShp
import Derived.Test.YtdcggnfplfgcnaaStep
import Derived.Test.YtdcggnfplfgcnaaNum
import Derived.BigQuiet
import Derived.Lib.MinMax
import Derived.Lib.SliceRun
import Derived.Deep.RegionHeld3
set_option linter.all false
namespace Go.Proofs.Ytdcggnfplfgcnaa
open Go.RowKit
namespace Blo

def I64 (z : Int) : Prop := -9223372036854775808 ≤ z ∧ z ≤ 9223372036854775807
theorem below_undrew {B : Nat} {a w : World} (h : Below B a.drew w) : Below B a w := ⟨h.os, h.tape, h.output, h.size, h.block⟩
theorem below_ofDrew {B : Nat} {a w : World} (h : Below B a w) : Below B a.drew w := ⟨h.os, h.tape, h.output, h.size, h.block⟩
theorem below_ofDrewN {B : Nat} {a w : World} {k : Nat} (h : Below B (a.drewN k) w) : Below B a w := ⟨h.os, h.tape, h.output, h.size, h.block⟩

/-! ### rows of numbers -/
/-- The numbers of a volume. -/
def vol (n : Nat) (f : Int → Nat) : List Nat := (List.range n).map fun (i : Nat) => f (i : Int)
theorem vol_length (n : Nat) (f : Int → Nat) : (vol n f).length = n := by simp [vol]
theorem vol_at {n i : Nat} (f : Int → Nat) (h : i < n) : (vol n f)[i]? = some (f (i : Int)) := by simp [vol, h]
theorem vol_congr {n : Nat} {f g : Int → Nat} (h : ∀ i : Nat, i < n → f (i : Int) = g (i : Int)) : vol n f = vol n g := by
  unfold vol
  exact List.map_congr_left fun i hi => h i (List.mem_range.1 hi)
theorem vol_inj {n : Nat} {f g : Int → Nat} (h : vol n f = vol n g) {i : Nat} (hi : i < n) : f (i : Int) = g (i : Int) := by
  have := congrArg (fun l => l[i]?) h
  simpa [vol_at _ hi] using this
/-- A list as a function. -/
def fun_ (v : List Nat) : Int → Nat := fun i => v.getD i.toNat 0
theorem vol_fun (v : List Nat) : vol v.length (fun_ v) = v := by
  apply List.ext_getElem
  · simp [vol]
  · intro i h1 h2
    simp [vol, fun_, List.getD, List.getElem?_eq_getElem h2]
theorem vol_is {v : List Nat} {n : Nat} (h : n = v.length) : v = vol n (fun_ v) := by subst h; exact (vol_fun v).symm
def low64 (f : Int → Nat) : Prop := ∀ i, f i < 18446744073709551616
theorem fun_low {v : List Nat} (h : ∀ z ∈ v, z < 18446744073709551616) : low64 (fun_ v) := fun i => by
  unfold fun_ List.getD
  cases hq : v[i.toNat]? with
  | none => simp
  | some x => exact h x (List.mem_of_getElem? hq)
theorem own_lt {w : World} {base : Nat} {e : TypeId} {size n : Nat} {v : Value} {xs : List Value} (h : w.ownsRow base e size v n xs) : ∀ k, v.ownBlock = some k → base ≤ k ∧ k < w.heap.size := h.lt
theorem own_from {w : World} {base : Nat} {e : TypeId} {size n : Nat} {v : Value} {xs : List Value} (h : w.ownsRow base e size v n xs) : ∀ k, v.ownBlock = some k → base ≤ k := fun k hk => (h.lt k hk).1
/-! ### ops in memory -/
/-- An op's numbers are ints. -/
structure FitB (o : BOp) : Prop where
  kind : I64 o.kind
  off : I64 o.off
  len : I64 o.len
theorem FitB.all {o : BOp} (h : FitB o) : (-9223372036854775808 ≤ o.kind ∧ o.kind ≤ 9223372036854775807) ∧ (-9223372036854775808 ≤ o.off ∧ o.off ≤ 9223372036854775807) ∧ (-9223372036854775808 ≤ o.len ∧ o.len ≤ 9223372036854775807) := ⟨h.kind, h.off, h.len⟩
abbrev ov (o : BOp) (X : Option Addr) (m c : Nat) : List Value := [.int .i64 o.kind, .int .i64 o.off, .int .i64 o.len, .slice X m c]
/-- The slice of an op's numbers. -/
structure Dat (w : World) (o : BOp) (X : Option Addr) (m c : Nat) : Prop where
  ns : Ns w X m o.data
  nil : X = none → m = 0 ∧ c = 0
  le : m ≤ c
  cap : c ≤ 9223372036854775807
  by8 : m * 8 ≤ 140737488355328
  fit : FitB o
theorem Dat.below {w w' : World} {o : BOp} {X : Option Addr} {m c : Nat} (h : Dat w o X m c) (hb : Below w.heap.size w w') : Dat w' o X m c := ⟨h.ns.below hb, h.nil, h.le, h.cap, h.by8, h.fit⟩
theorem Dat.grown {w w' : World} {row : Option Nat} {o : BOp} {X : Option Addr} {m c : Nat} (h : Dat w o X m c) (hg : w.grownBy w' row) (hne : ∀ a, X = some a → some a.block ≠ row) : Dat w' o X m c := ⟨h.ns.grown hg hne, h.nil, h.le, h.cap, h.by8, h.fit⟩
theorem Dat.len {w : World} {o : BOp} {X : Option Addr} {m c : Nat} (h : Dat w o X m c) : m = o.data.length := h.ns.len
/-- The slice value '.slice A n _' reads as the ops l. -/
structure Opl (w : World) (A : Option Addr) (n : Nat) (l : List BOp) : Prop where
  len : n = l.length
  each : ∀ k (hk : k < l.length), ∃ b o X m c, A = some ⟨b, o, none⟩ ∧ w.cell? ⟨b, o + k * 4, none⟩ = some (.int .i64 l[k].kind) ∧ w.cell? ⟨b, o + k * 4 + 1, none⟩ = some (.int .i64 l[k].off) ∧ w.cell? ⟨b, o + k * 4 + 2, none⟩ = some (.int .i64 l[k].len) ∧ w.cell? ⟨b, o + k * 4 + 3, none⟩ = some (.slice X m c) ∧ Dat w l[k] X m c
theorem Opl.below {w w' : World} {A : Option Addr} {n : Nat} {l : List BOp} (h : Opl w A n l) (hb : Below w.heap.size w w') : Opl w' A n l :=
  ⟨h.len, fun k hk => by
    obtain ⟨b, o, X, m, c, e, h0, h1, h2, h3, hd⟩ := h.each k hk
    exact ⟨b, o, X, m, c, e, (hb.cell (cell_lt h0)).trans h0, (hb.cell (cell_lt h1)).trans h1, (hb.cell (cell_lt h2)).trans h2, (hb.cell (cell_lt h3)).trans h3, hd.below hb⟩⟩
theorem Opl.drewN {w : World} {A : Option Addr} {n : Nat} {l : List BOp} (h : Opl w A n l) (k : Nat) : Opl (w.drewN k) A n l := h.below (below_drewN (Below.refl _ _) k)
theorem Opl.nil {w : World} {A : Option Addr} : Opl w A 0 [] := ⟨rfl, fun k hk => by simp at hk⟩
theorem Opl.at_ {w : World} {A : Option Addr} {n : Nat} {l : List BOp} (h : Opl w A n l) {k : Nat} (hk : k < n) :
    ∃ b o X m c x, A = some ⟨b, o, none⟩ ∧ l[k]? = some x ∧ w.cell? ⟨b, o + k * 4, none⟩ = some (.int .i64 x.kind) ∧ w.cell? ⟨b, o + k * 4 + 1, none⟩ = some (.int .i64 x.off) ∧ w.cell? ⟨b, o + k * 4 + 2, none⟩ = some (.int .i64 x.len) ∧ w.cell? ⟨b, o + k * 4 + 3, none⟩ = some (.slice X m c) ∧ Dat w x X m c := by
  have hl : k < l.length := by have := h.len; omega
  obtain ⟨b, o, X, m, c, e, r⟩ := h.each k hl
  exact ⟨b, o, X, m, c, l[k], e, List.getElem?_eq_getElem hl, r⟩
theorem drop_of {α : Type} {l : List α} {k : Nat} {x : α} (h : l[k]? = some x) : l.drop k = x :: l.drop (k + 1) := by
  obtain ⟨hk, rfl⟩ := List.getElem?_eq_some_iff.1 h
  exact List.drop_eq_getElem_cons hk

/-! ### volume, within, Range, Right -/
def withinB (n off k : Int) : Bool := decide (0 ≤ off) && decide (0 ≤ k) && decide (k ≤ n - off)
section
variable (w : World)
set_option maxRecDepth 100000 in
theorem volume_ (n : Int) (hn : I64 n) : Calls Try.prog 69 #[.int .i64 n] w fun e w' => e = .returned (.bool (manyB n)) ∧ w = w' := by
  unfold I64 at hn
  by_cases h0 : 0 ≤ n <;> by_cases h1 : n ≤ 1024 <;>
    (go_enter Try.func69, Try.ntmps69
     go_wp2
     go_ret
     exact ⟨by simp [manyB, h0, h1], rfl⟩)
set_option maxRecDepth 100000 in
theorem rmany_ (n : Int) (hn : I64 n) : Calls Try.prog 52 #[.int .i64 n] w fun e w' => e = .returned (.bool (manyB n)) ∧ w = w' := by
  unfold I64 at hn
  by_cases h0 : 0 ≤ n <;> by_cases h1 : n ≤ 1024 <;>
    (go_enter Try.func52, Try.ntmps52
     go_wp2
     go_ret
     exact ⟨by simp [manyB, h0, h1], rfl⟩)
set_option maxRecDepth 100000 in
theorem within_ (n off k : Int) (hn : 0 ≤ n ∧ n ≤ 1024) (ho : I64 off) (hk : I64 k) : Calls Try.prog 70 #[.int .i64 n, .int .i64 off, .int .i64 k] w fun e w' => e = .returned (.bool (withinB n off k)) ∧ w = w' := by
  unfold I64 at ho hk
  by_cases h0 : 0 ≤ off <;> by_cases h1 : 0 ≤ k <;> by_cases h2 : k ≤ n - off <;>
    (go_enter Try.func70, Try.ntmps70
     go_wp2
     go_ret
     exact ⟨by simp [withinB, h0, h1, h2], rfl⟩)
set_option maxRecDepth 100000 in
theorem rin_ (n off k : Int) (hn : 0 ≤ n ∧ n ≤ 1024) (ho : I64 off) (hk : I64 k) : Calls Try.prog 55 #[.int .i64 n, .int .i64 off, .int .i64 k] w fun e w' => e = .returned (.bool (inB n off k)) ∧ w = w' := by
  unfold I64 at ho hk
  by_cases h0 : 0 ≤ off <;> by_cases h1 : off ≤ n <;> by_cases h2 : k ≤ n - off <;>
    (go_enter Try.func55, Try.ntmps55
     go_wp2
     go_ret
     exact ⟨by simp [inB, h0, h1, h2], rfl⟩)
set_option maxRecDepth 100000 in
set_option maxHeartbeats 1000000 in
theorem range_ (o : BOp) (X : Option Addr) (m c : Nat) (h : Dat w o X m c) : Calls Try.prog 35 #[.agg #[.int .i64 o.kind, .int .i64 o.off, .int .i64 o.len, .slice X m c]] w fun e w' => e = .returned (.tuple #[.int .i64 o.from_, .int .i64 o.cnt]) ∧ Below w.heap.size w w' := by
  obtain ⟨fk, fo, fl⟩ := h.fit.all
  have hm := h.len
  by_cases h1 : o.kind = 1
  · have Hf := Lib.hid (show o.from_ = o.off by unfold BOp.from_; rw [if_pos h1])
    have Hc := Lib.hid (show o.cnt = (m : Int) by unfold BOp.cnt; rw [if_pos h1, hm])
    clear hm h
    go_enter Try.func35, Try.ntmps35
    go_wp2_with fail
    go_quiet (fail)
    go_wp2
    go_ret2
    rw [Hf.out, Hc.out]
    exact ⟨rfl, below_drewN ((Below.refl _ _).alloc (Nat.le_refl _) _) _⟩
  · by_cases h2 : o.kind = 2
    · have Hf := Lib.hid (show o.from_ = o.off by unfold BOp.from_; rw [if_neg h1, if_pos h2])
      have Hc := Lib.hid (show o.cnt = o.len by unfold BOp.cnt; rw [if_neg h1, if_pos h2])
      clear hm h
      go_enter Try.func35, Try.ntmps35
      go_wp2_with fail
      go_quiet (fail)
      go_wp2
      go_ret2
      rw [Hf.out, Hc.out]
      exact ⟨rfl, below_drewN ((Below.refl _ _).alloc (Nat.le_refl _) _) _⟩
    · have Hf := Lib.hid (show o.from_ = 0 by unfold BOp.from_; rw [if_neg h1, if_neg h2])
      have Hc := Lib.hid (show o.cnt = 0 by unfold BOp.cnt; rw [if_neg h1, if_neg h2])
      clear hm h
      go_enter Try.func35, Try.ntmps35
      go_wp2
      go_ret2
      rw [Hf.out, Hc.out]
      exact ⟨rfl, (Below.refl _ _).alloc (Nat.le_refl _) _⟩
end
end Blo
end Go.Proofs.Ytdcggnfplfgcnaa
