/- Layer 7: the mathematics of trees out of which what is near some blocks is taken: what lies below, what lies above. Nothing of the program is named here. -/
import Derived.Test.YtfcfffilfmbpeaaCowM
set_option linter.all false
namespace Go.Proofs.Ytfcfffilfmbpeaa
open Go.RowKit

/-- What ends ahead of b, with a block between. -/
def belowT : Tr → Int → Tr
  | .nil, _ => .nil
  | .node _ lo x hi, b => if x.off + x.len < b then joinT lo x (belowT hi b) else belowT lo b
/-- What begins behind e, with a block between. -/
def aboveT : Tr → Int → Tr
  | .nil, _ => .nil
  | .node _ lo x hi, e => if e < x.off then joinT (aboveT lo e) x hi else aboveT hi e
def isBelow (b : Int) (x : Ext) : Bool := decide (x.off + x.len < b)
def isAbove (e : Int) (x : Ext) : Bool := decide (e < x.off)
def isNear (b e : Int) (x : Ext) : Bool := decide (b ≤ x.off + x.len ∧ x.off ≤ e)
theorem filter_all {l : List Ext} {p : Ext → Bool} (h : ∀ x ∈ l, p x = true) : l.filter p = l := List.filter_eq_self.2 h
theorem filter_none {l : List Ext} {p : Ext → Bool} (h : ∀ x ∈ l, p x = false) : l.filter p = [] := List.filter_eq_nil_iff.2 fun x hx => by rw [h x hx]; exact Bool.false_ne_true
theorem list_node (n : Bool) (lo : Tr) (x : Ext) (hi : Tr) : (Tr.node n lo x hi).list = lo.list ++ x :: hi.list := rfl
theorem belowT_is : ∀ {t : Tr} {lo b : Int}, t.bal → listFrom lo t.list = true → (belowT t b).list = t.list.filter (isBelow b) ∧ (belowT t b).bal ∧ (belowT t b).deep ≤ t.deep
  | .nil, _, _, _, _ => ⟨rfl, trivial, Nat.le_refl _⟩
  | .node n lo x hi, m, b, ht, hl => by
    obtain ⟨b1, b2, b3, b4⟩ := (Tr.bal_node _ _ _ _).1 ht
    obtain ⟨l1, l2, l3, l4, l5⟩ := listFrom_mid (show listFrom m (lo.list ++ x :: hi.list) = true from hl)
    have hx := may_len l3
    rw [list_node, List.filter_append, List.filter_cons]
    unfold belowT
    simp only [Tr.deep_node]
    by_cases c : x.off + x.len < b
    · rw [if_pos c]
      obtain ⟨i1, i2, i3⟩ := belowT_is (b := b) b2 l5
      obtain ⟨j1, j2, j3, j4⟩ := joinT_is (lo := lo) (hi := belowT hi b) x b1 i2
      have hc : isBelow b x = true := by simp [isBelow, c]
      rw [hc, filter_all (l := lo.list) (fun y hy => by have := l2 y hy; simp only [isBelow, decide_eq_true_eq]; omega), j1, i1]
      exact ⟨rfl, j2, by omega⟩
    · rw [if_neg c]
      obtain ⟨i1, i2, i3⟩ := belowT_is (b := b) b1 l1
      have hc : isBelow b x = false := by simp [isBelow, c]
      rw [hc, filter_none (l := hi.list) (fun y hy => by have := listFrom_mem l5 y hy; have := may_len this.1; simp only [isBelow, decide_eq_false_iff_not]; omega), i1]
      exact ⟨by simp, i2, by omega⟩
theorem aboveT_is : ∀ {t : Tr} {lo e : Int}, t.bal → listFrom lo t.list = true → (aboveT t e).list = t.list.filter (isAbove e) ∧ (aboveT t e).bal ∧ (aboveT t e).deep ≤ t.deep
  | .nil, _, _, _, _ => ⟨rfl, trivial, Nat.le_refl _⟩
  | .node n lo x hi, m, e, ht, hl => by
    obtain ⟨b1, b2, b3, b4⟩ := (Tr.bal_node _ _ _ _).1 ht
    obtain ⟨l1, l2, l3, l4, l5⟩ := listFrom_mid (show listFrom m (lo.list ++ x :: hi.list) = true from hl)
    have hx := may_len l3
    rw [list_node, List.filter_append, List.filter_cons]
    unfold aboveT
    simp only [Tr.deep_node]
    by_cases c : e < x.off
    · rw [if_pos c]
      obtain ⟨i1, i2, i3⟩ := aboveT_is (e := e) b1 l1
      obtain ⟨j1, j2, j3, j4⟩ := joinT_is (lo := aboveT lo e) (hi := hi) x i2 b2
      have hc : isAbove e x = true := by simp [isAbove, c]
      rw [hc, filter_all (l := hi.list) (fun y hy => by have := listFrom_mem l5 y hy; simp only [isAbove, decide_eq_true_eq]; omega), j1, i1]
      exact ⟨rfl, j2, by omega⟩
    · rw [if_neg c]
      obtain ⟨i1, i2, i3⟩ := aboveT_is (e := e) b2 l5
      have hc : isAbove e x = false := by simp [isAbove, c]
      rw [hc, filter_none (l := lo.list) (fun y hy => by have := l2 y hy; have h2 := listFrom_mem l1 y hy; have := may_len h2.1; simp only [isAbove, decide_eq_false_iff_not]; omega), i1]
      exact ⟨by simp, i2, by omega⟩
theorem belowT_fresh : ∀ {t : Tr} {lo b : Int}, t.bal → listFrom lo t.list = true → (belowT t b).fresh ≤ t.fresh + 5 * t.deep + 2 * (belowT t b).deep
  | .nil, _, _, _, _ => by simp [belowT, Tr.fresh]
  | .node n lo x hi, m, b, ht, hl => by
    obtain ⟨b1, b2, b3, b4⟩ := (Tr.bal_node _ _ _ _).1 ht
    obtain ⟨l1, l2, l3, l4, l5⟩ := listFrom_mid (show listFrom m (lo.list ++ x :: hi.list) = true from hl)
    have hk := fresh_kids n lo x hi
    unfold belowT
    simp only [Tr.deep_node]
    by_cases c : x.off + x.len < b
    · rw [if_pos c]
      have i0 := belowT_fresh (b := b) b2 l5
      obtain ⟨_, i2, i3⟩ := belowT_is (b := b) b2 l5
      have j0 := joinT_fresh (lo := lo) (hi := belowT hi b) x b1 i2
      obtain ⟨_, _, j3, _⟩ := joinT_is (lo := lo) (hi := belowT hi b) x b1 i2
      omega
    · rw [if_neg c]
      have := belowT_fresh (b := b) b1 l1
      omega
theorem aboveT_fresh : ∀ {t : Tr} {lo e : Int}, t.bal → listFrom lo t.list = true → (aboveT t e).fresh ≤ t.fresh + 5 * t.deep + 2 * (aboveT t e).deep
  | .nil, _, _, _, _ => by simp [aboveT, Tr.fresh]
  | .node n lo x hi, m, e, ht, hl => by
    obtain ⟨b1, b2, b3, b4⟩ := (Tr.bal_node _ _ _ _).1 ht
    obtain ⟨l1, l2, l3, l4, l5⟩ := listFrom_mid (show listFrom m (lo.list ++ x :: hi.list) = true from hl)
    have hk := fresh_kids n lo x hi
    unfold aboveT
    simp only [Tr.deep_node]
    by_cases c : e < x.off
    · rw [if_pos c]
      have i0 := aboveT_fresh (e := e) b1 l1
      obtain ⟨_, i2, i3⟩ := aboveT_is (e := e) b1 l1
      have j0 := joinT_fresh (lo := aboveT lo e) (hi := hi) x i2 b2
      obtain ⟨_, _, j3, _⟩ := joinT_is (lo := aboveT lo e) (hi := hi) x i2 b2
      omega
    · rw [if_neg c]
      have := aboveT_fresh (e := e) b2 l5
      omega
theorem Tr.size_filter {t t' : Tr} {p : Ext → Bool} (h : t'.list = t.list.filter p) : t'.size ≤ t.size := by
  rw [Tr.size_list, Tr.size_list, h]
  exact List.length_filter_le _ _

/-! ### a list with what is near turned -/
/-- Extents put behind a tree, one after the other. -/
def pushT (t : Tr) (l : List Ext) : Tr := l.foldl (fun t x => joinT t x .nil) t
theorem pushT_nil (t : Tr) : pushT t [] = t := rfl
theorem pushT_cons (t : Tr) (x : Ext) (l : List Ext) : pushT t (x :: l) = pushT (joinT t x .nil) l := rfl
theorem pushT_is : ∀ {l : List Ext} {t : Tr}, t.bal → (pushT t l).list = t.list ++ l ∧ (pushT t l).bal ∧ t.deep ≤ (pushT t l).deep ∧ (pushT t l).deep ≤ t.deep + l.length ∧ (pushT t l).fresh ≤ t.fresh + l.length * (2 * (t.deep + l.length) + 1)
  | [], t, h => ⟨by simp [pushT], h, Nat.le_refl _, Nat.le_refl _, by simp [pushT]⟩
  | x :: l, t, h => by
    obtain ⟨j1, j2, j3, j4⟩ := joinT_is (lo := t) (hi := .nil) x h bal_nil
    have j5 := joinT_fresh (lo := t) (hi := .nil) x h bal_nil
    obtain ⟨i1, i2, i3, i4, i5⟩ := pushT_is (l := l) j2
    rw [pushT_cons]
    simp only [Tr.deep, Tr.fresh, Tr.list] at j3 j4 j5 j1
    simp only [List.length_cons]
    refine ⟨by rw [i1, j1]; simp, i2, by omega, by omega, ?_⟩
    have e1 : l.length * (2 * ((joinT t x .nil).deep + l.length) + 1) ≤ l.length * (2 * (t.deep + (l.length + 1)) + 1) := Nat.mul_le_mul_left _ (by omega)
    have e2 : (l.length + 1) * (2 * (t.deep + (l.length + 1)) + 1) = l.length * (2 * (t.deep + (l.length + 1)) + 1) + (2 * (t.deep + (l.length + 1)) + 1) := by rw [Nat.add_mul, Nat.one_mul]
    omega
/-- The whole: what is near is turned to l. -/
def turnT (t : Tr) (b e : Int) (l : List Ext) : Tr := join2 (pushT (belowT t b) l) (aboveT t e)
theorem turnT_is {t : Tr} {lo b e : Int} {l : List Ext} (ht : t.bal) (hl : listFrom lo t.list = true) (hn : l.length ≤ 3) :
    (turnT t b e l).list = t.list.filter (isBelow b) ++ l ++ t.list.filter (isAbove e) ∧ (turnT t b e l).bal ∧ (turnT t b e l).fresh ≤ 2 * t.fresh + 16 * (t.deep + (turnT t b e l).deep + 2) := by
  obtain ⟨i1, i2, i3⟩ := belowT_is (b := b) ht hl
  have i4 := belowT_fresh (b := b) ht hl
  obtain ⟨k1, k2, k3⟩ := aboveT_is (e := e) ht hl
  have k4 := aboveT_fresh (e := e) ht hl
  obtain ⟨p1, p2, p3, p4, p5⟩ := pushT_is (l := l) i2
  obtain ⟨q1, q2, q3, q4, q5, q6⟩ := join2_is (lo := pushT (belowT t b) l) (hi := aboveT t e) p2 k2
  have p6 : l.length * (2 * ((belowT t b).deep + l.length) + 1) ≤ 3 * (2 * ((belowT t b).deep + 3) + 1) := Nat.mul_le_mul hn (by omega)
  refine ⟨by unfold turnT; rw [q1, p1, i1, k1], q2, ?_⟩
  unfold turnT
  omega
end Go.Proofs.Ytfcfffilfmbpeaa
