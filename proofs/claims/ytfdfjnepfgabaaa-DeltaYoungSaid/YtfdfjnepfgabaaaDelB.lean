/- Layer 9: the blocks of a list of extents, one after another; what is laid by them, last over first. Nothing of the program is named here. -/
import Derived.Test.YtfdfjnepfgabaaaDelM
set_option linter.all false
namespace Go.Proofs.Ytfdfjnepfgabaaa
open Go.RowKit

abbrev Bl := Int × Int × Int
/-- The first k blocks of an extent: where it lies, its unit, its Birth. -/
def bkTo (x : Ext) (k : Nat) : List Bl := (List.range k).map fun (i : Nat) => (x.off + (i : Int), x.phys + (i : Int), x.birth)
def bkL (l : List Ext) : List Bl := l.flatMap fun x => bkTo x x.len.toNat
theorem bkTo_zero (x : Ext) : bkTo x 0 = [] := rfl
theorem bkTo_succ (x : Ext) (k : Nat) : bkTo x (k + 1) = bkTo x k ++ [(x.off + (k : Int), x.phys + (k : Int), x.birth)] := by simp [bkTo, List.range_succ]
theorem bkTo_len (x : Ext) (k : Nat) : (bkTo x k).length = k := by simp [bkTo]
theorem bkL_nil : bkL [] = [] := rfl
theorem bkL_cons (x : Ext) (l : List Ext) : bkL (x :: l) = bkTo x x.len.toNat ++ bkL l := by simp [bkL]
theorem bkL_app (l r : List Ext) : bkL (l ++ r) = bkL l ++ bkL r := by simp [bkL]
theorem take_one {α : Type} {l : List α} {k : Nat} {x : α} (h : l[k]? = some x) : l.take (k + 1) = l.take k ++ [x] := by
  obtain ⟨hk, rfl⟩ := List.getElem?_eq_some_iff.1 h
  rw [List.take_succ_eq_append_getElem hk]
theorem bkL_take {l : List Ext} {k : Nat} {x : Ext} (h : l[k]? = some x) : bkL (l.take (k + 1)) = bkL (l.take k) ++ bkTo x x.len.toNat := by
  rw [take_one h, bkL_app, bkL_cons, bkL_nil, List.append_nil]
theorem bkL_part {l : List Ext} {k : Nat} {x : Ext} (h : l[k]? = some x) {i : Nat} (hi : i ≤ x.len.toNat) : bkL (l.take k) ++ bkTo x i <+: bkL l := by
  have h1 : bkL (l.take (k + 1)) <+: bkL l := by
    refine ⟨bkL (l.drop (k + 1)), ?_⟩
    rw [← bkL_app, List.take_append_drop]
  refine List.IsPrefix.trans ?_ h1
  rw [bkL_take h]
  refine (List.prefix_append_right_inj _).2 ?_
  have : bkTo x i = (bkTo x x.len.toNat).take i := by
    simp [bkTo, ← List.map_take, List.take_range, Nat.min_eq_left hi]
  rw [this]
  exact List.take_prefix _ _
theorem bkL_lt {l : List Ext} {k : Nat} {x : Ext} (h : l[k]? = some x) {i : Nat} (hi : i < x.len.toNat) : (bkL (l.take k) ++ bkTo x i).length < (bkL l).length := by
  have := (bkL_part h (i := i + 1) hi).length_le
  simp only [List.length_append, bkTo_len] at this ⊢
  omega
theorem bkL_len {l : List Ext} (h : ∀ x ∈ l, x.may = true) : (bkL l).length ≤ l.length * 1024 := by
  induction l with
  | nil => simp [bkL]
  | cons x l ih =>
    have h1 := may_len (h x (by simp))
    have h2 := ih fun y hy => h y (by simp [hy])
    rw [bkL_cons, List.length_append, bkTo_len, List.length_cons]
    omega

/-! ### what is laid -/
def setF {β : Type} (g : Bl → β → β) (f : Int → β) (x : Bl) : Int → β := fun i => if i = x.1 then g x (f i) else f i
def laid {β : Type} (g : Bl → β → β) (f : Int → β) (xs : List Bl) : Int → β := xs.foldl (setF g) f
theorem laid_nil {β : Type} (g : Bl → β → β) (f : Int → β) : laid g f [] = f := rfl
theorem laid_snoc {β : Type} (g : Bl → β → β) (f : Int → β) (pre : List Bl) (x : Bl) : laid g f (pre ++ [x]) = setF g (laid g f pre) x := by simp [laid]
theorem laid_app {β : Type} (g : Bl → β → β) (f : Int → β) (a b : List Bl) : laid g f (a ++ b) = laid g (laid g f a) b := by simp [laid]
theorem laid_to {β : Type} (g : Bl → β → β) (f : Int → β) (x : Ext) (i : Int) : ∀ k : Nat, laid g f (bkTo x k) i = if x.off ≤ i ∧ i < x.off + (k : Int) then g (i, x.phys + i - x.off, x.birth) (f i) else f i
  | 0 => by
    rw [bkTo_zero, laid_nil, if_neg (by omega)]
  | k + 1 => by
    rw [bkTo_succ, laid_snoc]
    unfold setF
    by_cases e : i = x.off + (k : Int)
    · rw [if_pos e, if_pos (by omega), e]
      rw [show x.phys + (x.off + (k : Int)) - x.off = x.phys + (k : Int) by omega, laid_to g f x _ k, if_neg (by omega)]
    · rw [if_neg e, laid_to g f x i k]
      by_cases h : x.off ≤ i ∧ i < x.off + (k : Int)
      · rw [if_pos h, if_pos (by omega)]
      · rw [if_neg h, if_neg (by omega)]
def atG {β : Type} (g : Bl → β → β) (d : β) (l : List Ext) (i : Int) : β := match atL l i with | some (p, r) => g (i, p, r) d | none => d
theorem laid_bk {β : Type} (g : Bl → β → β) : ∀ {l : List Ext} {lo : Int} (_ : listFrom lo l = true) (f : Int → β) (i : Int), laid g f (bkL l) i = atG g (f i) l i
  | [], _, _, f, i => rfl
  | x :: l, lo, h, f, i => by
    rw [listFrom_cons] at h
    have hx := may_len h.1
    have hl : (x.len.toNat : Int) = x.len := by omega
    rw [bkL_cons, laid_app, laid_bk g h.2.2, laid_to, hl]
    unfold atG
    by_cases e : x.off ≤ i ∧ i < x.off + x.len
    · rw [at_head e, at_below h.2.2 e.2, if_pos e]
    · rw [at_tail e, if_neg e]
theorem mem_bk : ∀ {l : List Ext} {lo : Int} (_ : listFrom lo l = true) (y : Bl), y ∈ bkL l ↔ atL l y.1 = some y.2
  | [], _, _, y => by simp [bkL, atL]
  | x :: l, lo, h, y => by
    rw [listFrom_cons] at h
    have hx := may_len h.1
    rw [bkL_cons, List.mem_append, mem_bk h.2.2 y]
    have hm : y ∈ bkTo x x.len.toNat ↔ ∃ i : Nat, i < x.len.toNat ∧ (x.off + (i : Int), x.phys + (i : Int), x.birth) = y := by simp [bkTo]
    rw [hm]
    by_cases e : x.off ≤ y.1 ∧ y.1 < x.off + x.len
    · rw [at_head e, at_below h.2.2 e.2]
      constructor
      · rintro (⟨i, hi, rfl⟩ | h0)
        · simp only [Option.some.injEq, Prod.mk.injEq, and_true]; omega
        · cases h0
      · intro h0
        refine .inl ⟨(y.1 - x.off).toNat, by omega, ?_⟩
        obtain ⟨a, b, c⟩ := y
        simp only [Option.some.injEq, Prod.mk.injEq] at h0 e ⊢
        omega
    · rw [at_tail e]
      constructor
      · rintro (⟨i, hi, rfl⟩ | h0)
        · exact absurd (show x.off ≤ x.off + (i : Int) ∧ x.off + (i : Int) < x.off + x.len by omega) e
        · exact h0
      · exact fun h0 => .inr h0

/-- A block that may be, of a list whose blocks all lie ahead of N. -/
abbrev Bk (N : Nat) := { x : Bl // 0 ≤ x.1 ∧ x.1 < (N : Int) ∧ 0 ≤ x.2.1 ∧ x.2.1 ≤ 1099511627776 ∧ 0 ≤ x.2.2 ∧ x.2.2 ≤ 1099511627776 }
abbrev bls {N : Nat} (xs : List (Bk N)) : List Bl := xs.map Subtype.val
theorem bls_snoc {N : Nat} (xs : List (Bk N)) (x : Bk N) : bls (xs ++ [x]) = bls xs ++ [x.1] := by simp [bls]
theorem bk_ok {x : Ext} (h : x.may = true) {N i : Nat} (hN : x.off + x.len ≤ (N : Int)) (hi : (i : Int) < x.len) : 0 ≤ x.off + (i : Int) ∧ x.off + (i : Int) < (N : Int) ∧ 0 ≤ x.phys + (i : Int) ∧ x.phys + (i : Int) ≤ 1099511627776 ∧ 0 ≤ x.birth ∧ x.birth ≤ 1099511627776 := by
  have := may_len h
  omega

/-! ### what the three are made of -/
/-- What View lays. -/
def unitG (units : List Nat) (x : Bl) (v : Nat) : Nat := if x.2.1 < (units.length : Int) then unitOf units x.2.1 else v
theorem laid_show {l : List Ext} {lo : Int} (h : listFrom lo l = true) (units : List Nat) : laid (unitG units) (fun _ => 0) (bkL l) = showF l units := by
  funext i
  rw [laid_bk _ h]
  unfold atG showF unitG
  cases atL l i with
  | none => rfl
  | some v =>
    show (if v.1 < _ then _ else _) = unitOf units v.1
    split
    · rfl
    · rename_i hv; unfold unitOf; rw [if_neg hv]
/-- What young lays. -/
theorem laid_young {a b : List Ext} {lo lo' : Int} (ha : listFrom lo a = true) (hb : listFrom lo' b = true) (gen : Int) (i : Nat) : laid (fun x _ => decide (gen < x.2.2)) (laid (fun _ _ => true) (fun _ => false) (bkL a)) (bkL b) (i : Int) = youngF a b gen i := by
  rw [laid_bk _ hb, laid_bk _ ha]
  unfold atG youngF
  cases hb2 : atL b (i : Int) with
  | none => cases atL a (i : Int) <;> rfl
  | some v => cases atL a (i : Int) <;> rfl
/-- What Grown asks of each block. -/
theorem grown_iff {a b : List Ext} {lo : Int} (hb : listFrom lo b = true) (hlo : 0 ≤ lo) (gen : Int) : grownL a b gen ↔ ∀ y ∈ bkL b, grewB gen (atL a y.1) (some y.2) = true := by
  constructor
  · intro h y hy
    have h1 := (mem_bk hb y).1 hy
    have h2 := at_out (listFrom_less hb hlo) (i := y.1)
    by_cases e : 0 ≤ y.1 ∧ y.1 < 1024
    · have := h y.1.toNat (by omega)
      rw [show ((y.1.toNat : Nat) : Int) = y.1 by omega, h1] at this
      exact this
    · rw [h2 e] at h1; cases h1
  · intro h i _
    cases hq : atL b (i : Int) with
    | none => cases atL a (i : Int) <;> rfl
    | some v => exact h ((i : Int), v) ((mem_bk hb _).2 hq)
end Go.Proofs.Ytfdfjnepfgabaaa
