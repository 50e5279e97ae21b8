/- Layer 7: the mathematics of balanced trees of extents: their list, size, depth; joins; parts of them; ends taken off. Nothing of the program is named here. -/
import Derived.Test.YtfcfffilfmbpeaaEmpM
import Derived.Test.YtfcfffilfmbpeaaEmpF
set_option linter.all false
namespace Go.Proofs.Ytfcfffilfmbpeaa
open Go.RowKit

/-! ### how deep -/
/-- How many bits a number has. -/
def bitsN (n : Nat) : Nat := if h : n = 0 then 0 else bitsN (n / 2) + 1
termination_by n
decreasing_by omega
theorem bitsN_zero : bitsN 0 = 0 := by unfold bitsN; simp
theorem bitsN_pos {n : Nat} (h : 0 < n) : bitsN n = bitsN (n / 2) + 1 := by
  conv => lhs; unfold bitsN
  rw [dif_neg (by omega)]
theorem bitsN_double {n : Nat} (h : 0 < n) : bitsN (2 * n) = bitsN n + 1 := by
  rw [bitsN_pos (by omega), show 2 * n / 2 = n by omega]
theorem bitsN_mono : ∀ {m n : Nat}, n ≤ m → bitsN n ≤ bitsN m := by
  intro m
  induction m using Nat.strongRecOn with
  | ind m ih =>
    intro n h
    rcases Nat.eq_zero_or_pos n with h0 | h0
    · subst h0; rw [bitsN_zero]; exact Nat.zero_le _
    · rw [bitsN_pos h0, bitsN_pos (Nat.lt_of_lt_of_le h0 h)]
      have := ih (m / 2) (by omega) (n := n / 2) (by omega)
      omega
/-- How deep a tree of so many nodes may be. -/
def deepest (n : Nat) : Nat := bitsN (n + 1) * 3 / 2 + 1
/-- The fewest nodes, and one, of a balanced tree of this depth. -/
def least : Nat → Nat
  | 0 => 1
  | 1 => 2
  | h + 2 => least (h + 1) + least h
theorem least_step (h : Nat) : least (h + 2) = least (h + 1) + least h := by conv => lhs; unfold least
theorem least_pos : ∀ h : Nat, 0 < least h
  | 0 => by decide
  | 1 => by decide
  | h + 2 => by rw [least_step]; have := least_pos (h + 1); omega
theorem least_le (h : Nat) : least h ≤ least (h + 1) := by
  cases h with
  | zero => decide
  | succ h => rw [least_step]; omega
theorem least_half : ∀ h : Nat, 3 * least h ≤ 2 * least (h + 1)
  | 0 => by decide
  | h + 1 => by rw [least_step]; have := least_le h; have := least_half h; cases h with
    | zero => decide
    | succ h => rw [least_step] at *; have := least_le h; omega
theorem least_four (h : Nat) : 4 * least h ≤ least (h + 3) := by
  rw [least_step (h + 1), least_step h]
  have := least_half h
  omega
theorem deep_least : ∀ h : Nat, h ≤ bitsN (least h) * 3 / 2 + 1
  | 0 => by omega
  | 1 => by omega
  | 2 => by
    have : bitsN (least 2) = 2 := by rw [show least 2 = 3 by decide, bitsN_pos (by decide), bitsN_pos (by decide), bitsN_zero]
    omega
  | h + 3 => by
    have ih := deep_least h
    have h4 := bitsN_mono (least_four h)
    rw [show 4 * least h = 2 * (2 * least h) by omega, bitsN_double (by have := least_pos h; omega), bitsN_double (least_pos h)] at h4
    omega

/-! ### trees -/
/-- A tree of nodes; of each is told whether it is new. -/
inductive Tr where
  | nil : Tr
  | node (new : Bool) (lo : Tr) (x : Ext) (hi : Tr) : Tr
def Tr.list : Tr → List Ext
  | .nil => []
  | .node _ lo x hi => lo.list ++ x :: hi.list
def Tr.size : Tr → Nat
  | .nil => 0
  | .node _ lo _ hi => lo.size + hi.size + 1
def Tr.deep : Tr → Nat
  | .nil => 0
  | .node _ lo _ hi => max lo.deep hi.deep + 1
/-- How many nodes are new. -/
def Tr.fresh : Tr → Nat
  | .nil => 0
  | .node n lo _ hi => lo.fresh + hi.fresh + (if n then 1 else 0)
/-- At each node both sides' depths are within one of each other. -/
def Tr.bal : Tr → Prop
  | .nil => True
  | .node _ lo _ hi => lo.bal ∧ hi.bal ∧ lo.deep ≤ hi.deep + 1 ∧ hi.deep ≤ lo.deep + 1
theorem Tr.size_list : ∀ t : Tr, t.size = t.list.length
  | .nil => rfl
  | .node _ lo x hi => by simp only [Tr.size, Tr.list, List.length_append, List.length_cons, Tr.size_list lo, Tr.size_list hi]; omega
theorem Tr.fresh_le : ∀ t : Tr, t.fresh ≤ t.size
  | .nil => Nat.le_refl _
  | .node n lo x hi => by
    have := Tr.fresh_le lo
    have := Tr.fresh_le hi
    simp only [Tr.fresh, Tr.size]
    split <;> omega
/-- A tree of this depth has no more nodes than that. -/
theorem Tr.size_deep : ∀ t : Tr, t.size + 1 ≤ 2 ^ t.deep
  | .nil => by simp [Tr.size, Tr.deep]
  | .node n lo x hi => by
    have h1 := Tr.size_deep lo
    have h2 := Tr.size_deep hi
    simp only [Tr.size, Tr.deep]
    have h3 := Nat.pow_le_pow_right (n := 2) (by omega) (Nat.le_max_left lo.deep hi.deep)
    have h4 := Nat.pow_le_pow_right (n := 2) (by omega) (Nat.le_max_right lo.deep hi.deep)
    rw [Nat.pow_succ]
    omega
theorem least_mono : ∀ {a b : Nat}, a ≤ b → least a ≤ least b := by
  intro a b h
  induction h with
  | refl => exact Nat.le_refl _
  | step _ ih => exact Nat.le_trans ih (least_le _)
theorem Tr.least_size : ∀ {t : Tr}, t.bal → least t.deep ≤ t.size + 1
  | .nil, _ => by simp [Tr.deep, Tr.size, least]
  | .node _ lo x hi, h => by
    obtain ⟨h1, h2, h3, h4⟩ := h
    have i1 := Tr.least_size h1
    have i2 := Tr.least_size h2
    simp only [Tr.deep, Tr.size]
    rcases Nat.le_total lo.deep hi.deep with hle | hle
    · rw [Nat.max_eq_right hle]
      by_cases e : lo.deep = hi.deep
      · rw [e] at i1
        cases hd : hi.deep with
        | zero => rw [hd] at i1 i2; simp [least] at *
        | succ d => rw [hd] at i1 i2; rw [least_step]; have := least_le d; omega
      · have e2 : hi.deep = lo.deep + 1 := by omega
        rw [e2] at i2 ⊢
        rw [least_step]
        omega
    · rw [Nat.max_eq_left hle]
      by_cases e : lo.deep = hi.deep
      · rw [← e] at i2
        cases hd : lo.deep with
        | zero => rw [hd] at i1 i2; simp [least] at *
        | succ d => rw [hd] at i1 i2; rw [least_step]; have := least_le d; omega
      · have e2 : lo.deep = hi.deep + 1 := by omega
        rw [e2] at i1 ⊢
        rw [least_step]
        omega
/-- A balanced tree is no deeper than it may be. -/
theorem Tr.not_deep {t : Tr} (h : t.bal) : t.deep ≤ deepest t.size := by
  have h1 := deep_least t.deep
  have h2 := bitsN_mono (Tr.least_size h)
  unfold deepest
  omega
end Go.Proofs.Ytfcfffilfmbpeaa

namespace Go.Proofs.Ytfcfffilfmbpeaa
open Go.RowKit

theorem Tr.deep_zero {t : Tr} (h : t.deep = 0) : t = .nil := by
  cases t with
  | nil => rfl
  | node n lo x hi => simp [Tr.deep] at h
theorem Tr.deep_node (n : Bool) (lo : Tr) (x : Ext) (hi : Tr) : (Tr.node n lo x hi).deep = max lo.deep hi.deep + 1 := rfl
theorem Tr.bal_node (n : Bool) (lo : Tr) (x : Ext) (hi : Tr) : (Tr.node n lo x hi).bal ↔ lo.bal ∧ hi.bal ∧ lo.deep ≤ hi.deep + 1 ∧ hi.deep ≤ lo.deep + 1 := Iff.rfl
/-- Both sides, with x between them, whose depths are within two of each other. -/
def balT (lo : Tr) (x : Ext) (hi : Tr) : Tr :=
  if hi.deep + 1 < lo.deep then
    match lo with
    | .nil => .node true lo x hi
    | .node _ ll lx lr =>
      if lr.deep ≤ ll.deep then .node true ll lx (.node true lr x hi)
      else match lr with
        | .nil => .node true lo x hi
        | .node _ rl rx rr => .node true (.node true ll lx rl) rx (.node true rr x hi)
  else if lo.deep + 1 < hi.deep then
    match hi with
    | .nil => .node true lo x hi
    | .node _ hl hx hr =>
      if hl.deep ≤ hr.deep then .node true (.node true lo x hl) hx hr
      else match hl with
        | .nil => .node true lo x hi
        | .node _ ml mx mr => .node true (.node true lo x ml) mx (.node true mr hx hr)
  else .node true lo x hi
theorem balT_list (lo : Tr) (x : Ext) (hi : Tr) : (balT lo x hi).list = lo.list ++ x :: hi.list := by
  unfold balT
  split
  · split
    · rfl
    · split
      · simp [Tr.list]
      · split
        · rfl
        · simp [Tr.list]
  · split
    · split
      · rfl
      · split
        · simp [Tr.list]
        · split
          · rfl
          · simp [Tr.list]
    · rfl
theorem balT_is {lo hi : Tr} (x : Ext) (hl : lo.bal) (hh : hi.bal) (h1 : lo.deep ≤ hi.deep + 2) (h2 : hi.deep ≤ lo.deep + 2) :
    (balT lo x hi).bal ∧ max lo.deep hi.deep ≤ (balT lo x hi).deep ∧ (balT lo x hi).deep ≤ max lo.deep hi.deep + 1 ∧ (lo.deep ≤ hi.deep + 1 → hi.deep ≤ lo.deep + 1 → (balT lo x hi).deep = max lo.deep hi.deep + 1) := by
  unfold balT
  by_cases c1 : hi.deep + 1 < lo.deep
  · rw [if_pos c1]
    cases lo with
    | nil => simp [Tr.deep] at c1
    | node nf ll lx lr =>
      obtain ⟨b1, b2, b3, b4⟩ := (Tr.bal_node _ _ _ _).1 hl
      simp only [Tr.deep_node] at c1 h1 h2 ⊢
      by_cases c2 : lr.deep ≤ ll.deep
      · rw [if_pos c2]
        simp only [Tr.bal_node, Tr.deep_node]
        exact ⟨⟨b1, ⟨b2, hh, by omega, by omega⟩, by omega, by omega⟩, by omega, by omega, by omega⟩
      · rw [if_neg c2]
        cases lr with
        | nil => simp [Tr.deep] at c2
        | node ng rl rx rr =>
          obtain ⟨d1, d2, d3, d4⟩ := (Tr.bal_node _ _ _ _).1 b2
          simp only [Tr.deep_node] at c1 c2 b3 b4 h1 h2 ⊢
          simp only [Tr.bal_node, Tr.deep_node]
          exact ⟨⟨⟨b1, d1, by omega, by omega⟩, ⟨d2, hh, by omega, by omega⟩, by omega, by omega⟩, by omega, by omega, by omega⟩
  · rw [if_neg c1]
    by_cases c3 : lo.deep + 1 < hi.deep
    · rw [if_pos c3]
      cases hi with
      | nil => simp [Tr.deep] at c3
      | node nf hl' hx hr =>
        obtain ⟨b1, b2, b3, b4⟩ := (Tr.bal_node _ _ _ _).1 hh
        simp only [Tr.deep_node] at c1 c3 h1 h2 ⊢
        by_cases c2 : hl'.deep ≤ hr.deep
        · rw [if_pos c2]
          simp only [Tr.bal_node, Tr.deep_node]
          exact ⟨⟨⟨hl, b1, by omega, by omega⟩, b2, by omega, by omega⟩, by omega, by omega, by omega⟩
        · rw [if_neg c2]
          cases hl' with
          | nil => simp [Tr.deep] at c2
          | node ng ml mx mr =>
            obtain ⟨d1, d2, d3, d4⟩ := (Tr.bal_node _ _ _ _).1 b1
            simp only [Tr.deep_node] at c1 c2 c3 b3 b4 h1 h2 ⊢
            simp only [Tr.bal_node, Tr.deep_node]
            exact ⟨⟨⟨hl, d1, by omega, by omega⟩, ⟨d2, b2, by omega, by omega⟩, by omega, by omega⟩, by omega, by omega, by omega⟩
    · rw [if_neg c3]
      simp only [Tr.bal_node, Tr.deep_node]
      exact ⟨⟨hl, hh, by omega, by omega⟩, by omega, by omega, fun _ _ => trivial⟩
/-- Both sides, with x between them, however deep. -/
def joinT (lo : Tr) (x : Ext) (hi : Tr) : Tr :=
  if hi.deep + 1 < lo.deep then
    match lo with
    | .nil => .node true lo x hi
    | .node _ ll lx lr => balT ll lx (joinT lr x hi)
  else if lo.deep + 1 < hi.deep then
    match hi with
    | .nil => .node true lo x hi
    | .node _ hl hx hr => balT (joinT lo x hl) hx hr
  else .node true lo x hi
termination_by lo.size + hi.size
decreasing_by
  · simp only [Tr.size]; omega
  · simp only [Tr.size]; omega
theorem joinT_is : ∀ {lo hi : Tr} (x : Ext), lo.bal → hi.bal →
    (joinT lo x hi).list = lo.list ++ x :: hi.list ∧ (joinT lo x hi).bal ∧ max lo.deep hi.deep ≤ (joinT lo x hi).deep ∧ (joinT lo x hi).deep ≤ max lo.deep hi.deep + 1 := by
  intro lo hi x
  induction hn : lo.size + hi.size using Nat.strongRecOn generalizing lo hi with
  | ind n ih =>
    intro hl hh
    unfold joinT
    by_cases c1 : hi.deep + 1 < lo.deep
    · rw [if_pos c1]
      cases lo with
      | nil => simp [Tr.deep] at c1
      | node nf ll lx lr =>
        obtain ⟨b1, b2, b3, b4⟩ := (Tr.bal_node _ _ _ _).1 hl
        simp only [Tr.deep_node] at c1 ⊢
        obtain ⟨i1, i2, i3, i4⟩ := ih (lr.size + hi.size) (by rw [← hn]; simp only [Tr.size]; omega) rfl b2 hh
        obtain ⟨e1, e2, e3, e4⟩ := balT_is (lo := ll) (hi := joinT lr x hi) lx b1 i2 (by omega) (by omega)
        refine ⟨by rw [balT_list, i1]; simp [Tr.list], e1, ?_, ?_⟩
        · by_cases q : ll.deep ≤ (joinT lr x hi).deep + 1 ∧ (joinT lr x hi).deep ≤ ll.deep + 1
          · have := e4 q.1 q.2; omega
          · omega
        · by_cases q : ll.deep ≤ (joinT lr x hi).deep + 1 ∧ (joinT lr x hi).deep ≤ ll.deep + 1
          · have := e4 q.1 q.2; omega
          · omega
    · rw [if_neg c1]
      by_cases c3 : lo.deep + 1 < hi.deep
      · rw [if_pos c3]
        cases hi with
        | nil => simp [Tr.deep] at c3
        | node nf hl' hx hr =>
          obtain ⟨b1, b2, b3, b4⟩ := (Tr.bal_node _ _ _ _).1 hh
          simp only [Tr.deep_node] at c1 c3 ⊢
          obtain ⟨i1, i2, i3, i4⟩ := ih (lo.size + hl'.size) (by rw [← hn]; simp only [Tr.size]; omega) rfl hl b1
          obtain ⟨e1, e2, e3, e4⟩ := balT_is (lo := joinT lo x hl') (hi := hr) hx i2 b2 (by omega) (by omega)
          refine ⟨by rw [balT_list, i1]; simp [Tr.list], e1, ?_, ?_⟩
          · by_cases q : (joinT lo x hl').deep ≤ hr.deep + 1 ∧ hr.deep ≤ (joinT lo x hl').deep + 1
            · have := e4 q.1 q.2; omega
            · omega
          · by_cases q : (joinT lo x hl').deep ≤ hr.deep + 1 ∧ hr.deep ≤ (joinT lo x hl').deep + 1
            · have := e4 q.1 q.2; omega
            · omega
      · rw [if_neg c3]
        simp only [Tr.bal_node, Tr.deep_node]
        exact ⟨rfl, ⟨hl, hh, by omega, by omega⟩, by omega, by omega⟩

/-! ### how many nodes a join makes -/
def Tr.rootNew : Tr → Bool
  | .nil => false
  | .node n _ _ _ => n
theorem Tr.fresh_node (n : Bool) (lo : Tr) (x : Ext) (hi : Tr) : (Tr.node n lo x hi).fresh = lo.fresh + hi.fresh + (if n then 1 else 0) := rfl
theorem balT_new (lo : Tr) (x : Ext) (hi : Tr) : (balT lo x hi).rootNew = true := by
  unfold balT
  split
  · split
    · rfl
    · split
      · rfl
      · split <;> rfl
  · split
    · split
      · rfl
      · split
        · rfl
        · split <;> rfl
    · rfl
/-- At most three nodes; two, if the deeper side's own root is new and goes. -/
theorem balT_fresh (lo : Tr) (x : Ext) (hi : Tr) : (balT lo x hi).fresh ≤ lo.fresh + hi.fresh + 3 ∧
    ((hi.deep + 1 < lo.deep → lo.rootNew = true) → (lo.deep + 1 < hi.deep → hi.rootNew = true) → (balT lo x hi).fresh ≤ lo.fresh + hi.fresh + 2) := by
  unfold balT
  by_cases c1 : hi.deep + 1 < lo.deep
  · rw [if_pos c1]
    cases lo with
    | nil => simp [Tr.deep] at c1
    | node nf ll lx lr =>
      by_cases c2 : lr.deep ≤ ll.deep
      · simp only [if_pos c2, Tr.fresh_node, if_true]
        exact ⟨by split <;> omega, fun h _ => by have := h c1; simp only [Tr.rootNew] at this; rw [if_pos this]; omega⟩
      · simp only [if_neg c2]
        cases lr with
        | nil => simp [Tr.deep] at c2
        | node ng rl rx rr =>
          simp only [Tr.fresh_node, if_true]
          exact ⟨by split <;> split <;> omega, fun h _ => by have := h c1; simp only [Tr.rootNew] at this; rw [if_pos this]; split <;> omega⟩
  · rw [if_neg c1]
    by_cases c3 : lo.deep + 1 < hi.deep
    · rw [if_pos c3]
      cases hi with
      | nil => simp [Tr.deep] at c3
      | node nf hl hx hr =>
        by_cases c2 : hl.deep ≤ hr.deep
        · simp only [if_pos c2, Tr.fresh_node, if_true]
          exact ⟨by split <;> omega, fun _ h => by have := h c3; simp only [Tr.rootNew] at this; rw [if_pos this]; omega⟩
        · simp only [if_neg c2]
          cases hl with
          | nil => simp [Tr.deep] at c2
          | node ng ml mx mr =>
            simp only [Tr.fresh_node, if_true]
            exact ⟨by split <;> split <;> omega, fun _ h => by have := h c3; simp only [Tr.rootNew] at this; rw [if_pos this]; split <;> omega⟩
    · simp only [if_neg c3, Tr.fresh_node, if_true]
      exact ⟨by omega, fun _ _ => by omega⟩
theorem joinT_new (lo : Tr) (x : Ext) (hi : Tr) : (joinT lo x hi).rootNew = true := by
  unfold joinT
  split
  · split
    · rfl
    · exact balT_new _ _ _
  · split
    · split
      · rfl
      · exact balT_new _ _ _
    · rfl
/-- A join makes at most twice as many nodes as the depths differ by, and one. -/
theorem joinT_fresh : ∀ {lo hi : Tr} (x : Ext), lo.bal → hi.bal → (joinT lo x hi).fresh ≤ lo.fresh + hi.fresh + 2 * (lo.deep - hi.deep) + 2 * (hi.deep - lo.deep) + 1 := by
  intro lo hi x
  induction hn : lo.size + hi.size using Nat.strongRecOn generalizing lo hi with
  | ind n ih =>
    intro hl hh
    unfold joinT
    by_cases c1 : hi.deep + 1 < lo.deep
    · rw [if_pos c1]
      cases lo with
      | nil => simp [Tr.deep] at c1
      | node nf ll lx lr =>
        obtain ⟨b1, b2, b3, b4⟩ := (Tr.bal_node _ _ _ _).1 hl
        simp only [Tr.deep_node, Tr.fresh_node] at c1 ⊢
        have i1 := ih (lr.size + hi.size) (by rw [← hn]; simp only [Tr.size]; omega) rfl b2 hh
        obtain ⟨_, i2, i3, i4⟩ := joinT_is (lo := lr) (hi := hi) x b2 hh
        have e1 := (balT_fresh ll lx (joinT lr x hi)).2 (fun h => by omega) (fun _ => joinT_new _ _ _)
        omega
    · rw [if_neg c1]
      by_cases c3 : lo.deep + 1 < hi.deep
      · rw [if_pos c3]
        cases hi with
        | nil => simp [Tr.deep] at c3
        | node nf hl' hx hr =>
          obtain ⟨b1, b2, b3, b4⟩ := (Tr.bal_node _ _ _ _).1 hh
          simp only [Tr.deep_node, Tr.fresh_node] at c1 c3 ⊢
          have i1 := ih (lo.size + hl'.size) (by rw [← hn]; simp only [Tr.size]; omega) rfl hl b1
          obtain ⟨_, i2, i3, i4⟩ := joinT_is (lo := lo) (hi := hl') x hl b1
          have e1 := (balT_fresh (joinT lo x hl') hx hr).2 (fun _ => joinT_new _ _ _) (fun h => by omega)
          omega
      · rw [if_neg c3]
        simp only [Tr.fresh_node, if_true]
        omega
end Go.Proofs.Ytfcfffilfmbpeaa

namespace Go.Proofs.Ytfcfffilfmbpeaa
open Go.RowKit

/-- x, with the last one ahead if that is one with it. -/
def takeLo (p : List Ext) (x : Ext) : List Ext × Ext := match p.getLast? with
  | some y => if oneB y x then (p.dropLast, { y with len := y.len + x.len }) else (p, x)
  | none => (p, x)
/-- x, with the first one behind if that is one with it. -/
def takeHi (x : Ext) (q : List Ext) : Ext × List Ext := match q with
  | y :: q' => if oneB x y then ({ x with len := x.len + y.len }, q') else (x, q)
  | [] => (x, [])
theorem takeLo_nil (x : Ext) : takeLo [] x = ([], x) := rfl
theorem takeLo_snoc (p : List Ext) (y x : Ext) : takeLo (p ++ [y]) x = if oneB y x then (p, { y with len := y.len + x.len }) else (p ++ [y], x) := by
  unfold takeLo
  simp
theorem push_take (p : List Ext) (x : Ext) : pushL p x = (takeLo p x).1 ++ [(takeLo p x).2] := by
  rcases snoc_cases p with rfl | ⟨p, y, rfl⟩
  · rfl
  · rw [push_snoc, takeLo_snoc]
    split <;> rfl
theorem takeHi_cons (x y : Ext) (q : List Ext) : takeHi x (y :: q) = if oneB x y then ({ x with len := x.len + y.len }, q) else (x, y :: q) := rfl
theorem joinIn_take {q : List Ext} (hq : aloneB q = true) (x : Ext) : joinIn x q = (takeHi x q).1 :: (takeHi x q).2 := by
  cases q with
  | nil => rfl
  | cons y q =>
    rw [takeHi_cons]
    unfold joinIn
    by_cases h : oneB x y = true
    · rw [if_pos h, if_pos h]
      obtain ⟨h1, h2, h3⟩ := one_is h
      refine joinIn_alone ?_
      cases q with
      | nil => rfl
      | cons z q =>
        simp only [aloneB, Bool.and_eq_true, Bool.not_eq_true'] at hq ⊢
        refine ⟨?_, hq.2⟩
        have := hq.1
        simp only [oneB, Bool.and_eq_false_iff, decide_eq_false_iff_not] at this ⊢
        omega
    · rw [if_neg h, if_neg h]
      show x :: joinIn y q = x :: y :: q
      rw [joinIn_alone hq]
/-- A list, an extent and a list, put together in their form. -/
theorem join_mid {p q : List Ext} (hp : aloneB p = true) (hq : aloneB q = true) (x : Ext) :
    joinL (p ++ x :: q) = (takeLo p x).1 ++ (takeHi (takeLo p x).2 q).1 :: (takeHi (takeLo p x).2 q).2 := by
  rw [← fold_join, List.foldl_append, List.foldl_cons, fold_join, join_alone hp, push_take, fold_push, joinIn_take hq]
theorem put_mid {l : List Ext} (h : rightB l = true) (x : Ext) :
    putL l x = (takeLo (partL l 0 x.off) x).1 ++ (takeHi (takeLo (partL l 0 x.off) x).2 (partL l (x.off + x.len) 1024)).1 :: (takeHi (takeLo (partL l 0 x.off) x).2 (partL l (x.off + x.len) 1024)).2 := by
  have h2 := right_is.1 h
  exact join_mid (part_alone h2.1 h2.2) (part_alone h2.1 h2.2) x

/-! ### parts of lists put together -/
theorem part_app (l l' : List Ext) (a b : Int) : partL (l ++ l') a b = partL l a b ++ partL l' a b := by simp [partL]
/-- All lie from a on, ahead of b. -/
def within (l : List Ext) (a b : Int) : Prop := ∀ x ∈ l, a ≤ x.off ∧ x.off + x.len ≤ b ∧ 1 ≤ x.len
theorem part_within : ∀ {l : List Ext} {a b : Int}, within l a b → partL l a b = l
  | [], _, _, _ => rfl
  | x :: l, a, b, h => by
    obtain ⟨h1, h2, h3⟩ := h x List.mem_cons_self
    have hc : clip x a b = some x := by
      unfold clip
      rw [if_pos (by omega)]
      obtain ⟨o, n, p, r⟩ := x
      simp only at *
      simp only [Option.some.injEq, Ext.mk.injEq, and_true]
      omega
    rw [part_cons, hc]
    simp only
    rw [part_within fun y hy => h y (List.mem_cons_of_mem _ hy)]
theorem part_out {l : List Ext} {a b : Int} (h : ∀ x ∈ l, x.off + x.len ≤ a ∨ b ≤ x.off) : partL l a b = [] := by
  unfold partL
  rw [List.filterMap_eq_nil_iff]
  intro x hx
  have := h x hx
  unfold clip
  rw [if_neg (by omega)]
theorem listFrom_split : ∀ {l l' : List Ext} {lo : Int}, listFrom lo (l ++ l') = true → listFrom lo l = true ∧ listFrom lo l' = true
  | [], l', lo, h => ⟨rfl, h⟩
  | x :: l, l', lo, h => by
    rw [List.cons_append, listFrom_cons] at h
    have hx := may_len h.1
    obtain ⟨h1, h2⟩ := listFrom_split h.2.2
    exact ⟨by rw [listFrom_cons]; exact ⟨h.1, h.2.1, h1⟩, listFrom_less h2 (by omega)⟩
/-- What lies ahead of an extent ends where it begins, or ahead; what lies behind begins where it ends, or behind. -/
theorem listFrom_mid : ∀ {l l' : List Ext} {x : Ext} {lo : Int}, listFrom lo (l ++ x :: l') = true → listFrom lo l = true ∧ endsB l x.off ∧ x.may = true ∧ lo ≤ x.off ∧ listFrom (x.off + x.len) l' = true
  | [], l', x, lo, h => by
    rw [List.nil_append, listFrom_cons] at h
    exact ⟨rfl, by simp [endsB], h.1, h.2.1, h.2.2⟩
  | y :: l, l', x, lo, h => by
    rw [List.cons_append, listFrom_cons] at h
    have hy := may_len h.1
    obtain ⟨h1, h2, h3, h4, h5⟩ := listFrom_mid h.2.2
    refine ⟨by rw [listFrom_cons]; exact ⟨h.1, h.2.1, h1⟩, fun z hz => ?_, h3, by omega, h5⟩
    rcases List.mem_cons.1 hz with rfl | hz
    · omega
    · exact h2 z hz
theorem at_mid {l l' : List Ext} {x : Ext} {lo i : Int} (h : listFrom lo (l ++ x :: l') = true) :
    atL (l ++ x :: l') i = if i < x.off then atL l i else if i < x.off + x.len then some (x.phys + i - x.off, x.birth) else atL l' i := by
  obtain ⟨h1, h2, h3, h4, h5⟩ := listFrom_mid h
  have hx := may_len h3
  rw [at_app]
  by_cases e : i < x.off
  · rw [if_pos e, at_tail (by omega), at_below h5 (by omega)]
    cases atL l i <;> rfl
  · rw [if_neg e, at_beyond h2 (by omega)]
    simp only
    by_cases e2 : i < x.off + x.len
    · rw [if_pos e2, at_head (by omega)]
    · rw [if_neg e2, at_tail (by omega)]
theorem part_mid {l l' : List Ext} (x : Ext) (a b : Int) : partL (l ++ x :: l') a b = partL l a b ++ (match clip x a b with | some y => y :: partL l' a b | none => partL l' a b) := by
  rw [part_app, part_cons]
  rfl

/-! ### single blocks, put in any order -/
/-- What 'CowMany' puts at a place. -/
def lone (at_ : Nat) : Ext := ⟨2 * (at_ : Int), 1, 3 * (at_ : Int), 0⟩
theorem lone_may {a : Nat} (h : a < 512) : (lone a).may = true := may_of (by unfold lone; simp only; omega)
def lones (s : Nat → Bool) : List Ext := ((List.range 512).filter s).map lone
theorem lones_from (s : Nat → Bool) : ∀ (n k : Nat), k + n ≤ 512 → listFrom (2 * (k : Int)) (((List.range' k n).filter s).map lone) = true ∧ aloneB (((List.range' k n).filter s).map lone) = true
  | 0, _, _ => ⟨rfl, rfl⟩
  | n + 1, k, h => by
    obtain ⟨i1, i2⟩ := lones_from s n (k + 1) (by omega)
    rw [List.range'_succ, List.filter_cons]
    cases hs : s k with
    | false => simp only [Bool.false_eq_true, if_false]; exact ⟨listFrom_less i1 (by omega), i2⟩
    | true =>
      simp only [if_true, List.map_cons]
      refine ⟨?_, ?_⟩
      · rw [listFrom_cons]
        exact ⟨lone_may (by omega), by unfold lone; simp only; omega, listFrom_less i1 (by unfold lone; simp only; omega)⟩
      · cases hr : ((List.range' (k + 1) n).filter s).map lone with
        | nil => rfl
        | cons y r =>
          rw [hr] at i1 i2
          rw [listFrom_cons] at i1
          simp only [aloneB, Bool.and_eq_true, Bool.not_eq_true']
          exact ⟨one_gap (by unfold lone; simp only; omega), i2⟩
theorem lones_right (s : Nat → Bool) : rightB (lones s) = true := by
  have := lones_from s 512 0 (by omega)
  rw [← List.range_eq_range'] at this
  exact right_is.2 ⟨listFrom_less this.1 (by omega), this.2⟩
theorem lones_at (s : Nat → Bool) (i : Nat) (hi : i < 1024) : atL (lones s) (i : Int) = if i % 2 = 0 ∧ s (i / 2) = true then some (3 * ((i / 2 : Nat) : Int), 0) else none := by
  by_cases h : i % 2 = 0 ∧ s (i / 2) = true
  · rw [if_pos h]
    have hm : lone (i / 2) ∈ lones s := List.mem_map.2 ⟨i / 2, List.mem_filter.2 ⟨List.mem_range.2 (by omega), h.2⟩, rfl⟩
    rw [at_mem (right_is.1 (lones_right s)).1 hm (has_iff.2 (by unfold lone; simp only; omega))]
    unfold lone
    simp only [Option.some.injEq, Prod.mk.injEq, and_true]
    omega
  · rw [if_neg h]
    refine at_none fun x hx => ?_
    obtain ⟨a, ha, rfl⟩ := List.mem_map.1 hx
    obtain ⟨h1, h2⟩ := List.mem_filter.1 ha
    cases hb : (lone a).has i with
    | false => rfl
    | true =>
      have := has_iff.1 hb
      unfold lone at this
      simp only at this
      have e : i / 2 = a := by omega
      exact absurd ⟨by omega, by rw [e]; exact h2⟩ h
theorem lones_none : lones (fun _ => false) = [] := by unfold lones; simp
/-- One more. -/
theorem lones_put (s : Nat → Bool) {a : Nat} (h : a < 512) : putL (lones s) (lone a) = lones (fun b => if b = a then true else s b) := by
  obtain ⟨p1, p2⟩ := put_is (lones_right s) (lone_may h)
  refine form_is p1 (lones_right _) fun i h0 h1 => ?_
  obtain ⟨n, rfl⟩ := Int.eq_ofNat_of_zero_le h0
  rw [p2, lones_at _ n (by omega), lones_at _ n (by omega)]
  by_cases e : (lone a).off ≤ (n : Int) ∧ (n : Int) < (lone a).off + (lone a).len
  · rw [if_pos e]
    unfold lone at e ⊢
    simp only at e ⊢
    have e2 : n / 2 = a := by omega
    rw [if_pos ⟨by omega, by simp [e2]⟩]
    simp only [Option.some.injEq, Prod.mk.injEq, and_true]
    omega
  · rw [if_neg e]
    unfold lone at e
    simp only at e
    by_cases e3 : n % 2 = 0
    · have : n / 2 ≠ a := by omega
      simp [e3, this]
    · simp [e3]
end Go.Proofs.Ytfcfffilfmbpeaa

namespace Go.Proofs.Ytfcfffilfmbpeaa
open Go.RowKit

/-- What lies ahead of b. -/
def keepLo : Tr → Int → Tr
  | .nil, _ => .nil
  | .node _ lo x hi, b => if b ≤ x.off then keepLo lo b else if x.off + x.len ≤ b then joinT lo x (keepLo hi b) else joinT lo ⟨x.off, b - x.off, x.phys, x.birth⟩ .nil
/-- What lies from a on. -/
def keepHi : Tr → Int → Tr
  | .nil, _ => .nil
  | .node _ lo x hi, a => if x.off + x.len ≤ a then keepHi hi a else if a ≤ x.off then joinT (keepHi lo a) x hi else joinT .nil ⟨a, x.off + x.len - a, x.phys + a - x.off, x.birth⟩ hi
theorem within_lo {l : List Ext} {lo b : Int} (h : listFrom lo l = true) (h0 : 0 ≤ lo) (he : endsB l b) : within l 0 b := fun x hx => by
  have h1 := listFrom_mem h x hx
  have h2 := may_len h1.1
  have h3 := he x hx
  omega
theorem within_hi {l : List Ext} {lo a : Int} (h : listFrom lo l = true) (ha : a ≤ lo) : within l a 1024 := fun x hx => by
  have h1 := listFrom_mem h x hx
  have h2 := may_len h1.1
  omega
theorem part_behind {l : List Ext} {lo b : Int} (h : listFrom lo l = true) (hb : b ≤ lo) (a : Int) : partL l a b = [] := part_out fun x hx => by
  have h1 := listFrom_mem h x hx
  omega
theorem part_ahead {l : List Ext} {a : Int} (he : endsB l a) (b : Int) : partL l a b = [] := part_out fun x hx => .inl (he x hx)
theorem bal_nil : Tr.nil.bal := trivial
theorem keepLo_is : ∀ {t : Tr} {lo b : Int}, t.bal → listFrom lo t.list = true → 0 ≤ lo → (keepLo t b).list = partL t.list 0 b ∧ (keepLo t b).bal ∧ (keepLo t b).deep ≤ t.deep
  | .nil, _, _, _, _, _ => ⟨rfl, trivial, Nat.le_refl _⟩
  | .node n lo x hi, m, b, ht, hl, h0 => by
    obtain ⟨b1, b2, b3, b4⟩ := (Tr.bal_node _ _ _ _).1 ht
    have hl' : listFrom m (lo.list ++ x :: hi.list) = true := hl
    obtain ⟨l1, l2, l3, l4, l5⟩ := listFrom_mid hl'
    have hx := may_len l3
    have ht2 : (Tr.node n lo x hi).list = lo.list ++ x :: hi.list := rfl
    rw [ht2, part_mid]
    unfold keepLo
    simp only [Tr.deep_node]
    by_cases c1 : b ≤ x.off
    · rw [if_pos c1]
      obtain ⟨i1, i2, i3⟩ := keepLo_is (b := b) b1 l1 h0
      have hc : clip x 0 b = none := by unfold clip; rw [if_neg (by omega)]
      rw [hc, part_behind l5 (by omega)]
      exact ⟨by simpa using i1, i2, by omega⟩
    · rw [if_neg c1]
      have hlo : partL lo.list 0 b = lo.list := part_within (within_lo l1 h0 fun y hy => by have := l2 y hy; omega)
      by_cases c2 : x.off + x.len ≤ b
      · rw [if_pos c2]
        obtain ⟨i1, i2, i3⟩ := keepLo_is (b := b) b2 l5 (by omega)
        obtain ⟨j1, j2, j3, j4⟩ := joinT_is (lo := lo) (hi := keepLo hi b) x b1 i2
        have hc : clip x 0 b = some x := by
          have := part_within (l := [x]) (a := 0) (b := b) (fun y hy => by rw [List.mem_singleton.1 hy]; omega)
          rw [part_cons] at this
          cases hc : clip x 0 b with
          | none => rw [hc] at this; simp [partL] at this
          | some y => rw [hc] at this; simp [partL] at this; rw [this]
        rw [hc, hlo, j1, i1]
        exact ⟨rfl, j2, by omega⟩
      · rw [if_neg c2]
        obtain ⟨j1, j2, j3, j4⟩ := joinT_is (lo := lo) (hi := .nil) ⟨x.off, b - x.off, x.phys, x.birth⟩ b1 bal_nil
        have hc : clip x 0 b = some ⟨x.off, b - x.off, x.phys, x.birth⟩ := by
          unfold clip
          rw [if_pos (by omega)]
          simp only [Option.some.injEq, Ext.mk.injEq, and_true]
          omega
        rw [hc, hlo, part_behind l5 (by omega), j1]
        have hd : Tr.nil.deep = 0 := rfl
        exact ⟨rfl, j2, by omega⟩
theorem keepHi_is : ∀ {t : Tr} {lo a : Int}, t.bal → listFrom lo t.list = true → 0 ≤ lo → (keepHi t a).list = partL t.list a 1024 ∧ (keepHi t a).bal ∧ (keepHi t a).deep ≤ t.deep
  | .nil, _, _, _, _, _ => ⟨rfl, trivial, Nat.le_refl _⟩
  | .node n lo x hi, m, a, ht, hl, h0 => by
    obtain ⟨b1, b2, b3, b4⟩ := (Tr.bal_node _ _ _ _).1 ht
    have hl' : listFrom m (lo.list ++ x :: hi.list) = true := hl
    obtain ⟨l1, l2, l3, l4, l5⟩ := listFrom_mid hl'
    have hx := may_len l3
    have ht2 : (Tr.node n lo x hi).list = lo.list ++ x :: hi.list := rfl
    rw [ht2, part_mid]
    unfold keepHi
    simp only [Tr.deep_node]
    by_cases c1 : x.off + x.len ≤ a
    · rw [if_pos c1]
      obtain ⟨i1, i2, i3⟩ := keepHi_is (a := a) b2 l5 (by omega)
      have hc : clip x a 1024 = none := by unfold clip; rw [if_neg (by omega)]
      rw [hc, part_ahead (fun y hy => by have := l2 y hy; omega)]
      exact ⟨by simpa using i1, i2, by omega⟩
    · rw [if_neg c1]
      by_cases c2 : a ≤ x.off
      · rw [if_pos c2]
        have hhi : partL hi.list a 1024 = hi.list := part_within (within_hi l5 (by omega))
        obtain ⟨i1, i2, i3⟩ := keepHi_is (a := a) b1 l1 h0
        obtain ⟨j1, j2, j3, j4⟩ := joinT_is (lo := keepHi lo a) (hi := hi) x i2 b2
        have hc : clip x a 1024 = some x := by
          have := part_within (l := [x]) (a := a) (b := 1024) (fun y hy => by rw [List.mem_singleton.1 hy]; omega)
          rw [part_cons] at this
          cases hc : clip x a 1024 with
          | none => rw [hc] at this; simp [partL] at this
          | some y => rw [hc] at this; simp [partL] at this; rw [this]
        rw [hc, hhi, j1, i1]
        exact ⟨rfl, j2, by omega⟩
      · rw [if_neg c2]
        have hhi : partL hi.list a 1024 = hi.list := part_within (within_hi l5 (by omega))
        obtain ⟨j1, j2, j3, j4⟩ := joinT_is (lo := .nil) (hi := hi) ⟨a, x.off + x.len - a, x.phys + a - x.off, x.birth⟩ bal_nil b2
        have hc : clip x a 1024 = some ⟨a, x.off + x.len - a, x.phys + a - x.off, x.birth⟩ := by
          unfold clip
          rw [if_pos (by omega)]
          simp only [Option.some.injEq, Ext.mk.injEq, and_true]
          omega
        rw [hc, hhi, part_ahead (fun y hy => by have := l2 y hy; omega), j1]
        have hd : Tr.nil.deep = 0 := rfl
        exact ⟨rfl, j2, by omega⟩
theorem fresh_kids (n : Bool) (lo : Tr) (x : Ext) (hi : Tr) : lo.fresh + hi.fresh ≤ (Tr.node n lo x hi).fresh := by rw [Tr.fresh_node]; omega
/-- How many nodes a part makes. -/
theorem keepLo_fresh : ∀ {t : Tr} {lo b : Int}, t.bal → listFrom lo t.list = true → 0 ≤ lo → (keepLo t b).fresh ≤ t.fresh + 5 * t.deep + 2 * (keepLo t b).deep
  | .nil, _, _, _, _, _ => by simp [keepLo, Tr.fresh]
  | .node n lo x hi, m, b, ht, hl, h0 => by
    obtain ⟨b1, b2, b3, b4⟩ := (Tr.bal_node _ _ _ _).1 ht
    obtain ⟨l1, l2, l3, l4, l5⟩ := listFrom_mid (show listFrom m (lo.list ++ x :: hi.list) = true from hl)
    have hx := may_len l3
    have hk := fresh_kids n lo x hi
    unfold keepLo
    simp only [Tr.deep_node]
    by_cases c1 : b ≤ x.off
    · rw [if_pos c1]
      have := keepLo_fresh (b := b) b1 l1 h0
      omega
    · rw [if_neg c1]
      by_cases c2 : x.off + x.len ≤ b
      · rw [if_pos c2]
        have i0 := keepLo_fresh (b := b) b2 l5 (by omega)
        obtain ⟨_, i2, i3⟩ := keepLo_is (b := b) b2 l5 (by omega)
        have j0 := joinT_fresh (lo := lo) (hi := keepLo hi b) x b1 i2
        obtain ⟨_, _, j3, _⟩ := joinT_is (lo := lo) (hi := keepLo hi b) x b1 i2
        omega
      · rw [if_neg c2]
        have j0 := joinT_fresh (lo := lo) (hi := .nil) ⟨x.off, b - x.off, x.phys, x.birth⟩ b1 bal_nil
        obtain ⟨_, _, j3, _⟩ := joinT_is (lo := lo) (hi := .nil) ⟨x.off, b - x.off, x.phys, x.birth⟩ b1 bal_nil
        simp only [Tr.fresh, Tr.deep] at j0 j3
        omega
theorem keepHi_fresh : ∀ {t : Tr} {lo a : Int}, t.bal → listFrom lo t.list = true → 0 ≤ lo → (keepHi t a).fresh ≤ t.fresh + 5 * t.deep + 2 * (keepHi t a).deep
  | .nil, _, _, _, _, _ => by simp [keepHi, Tr.fresh]
  | .node n lo x hi, m, a, ht, hl, h0 => by
    obtain ⟨b1, b2, b3, b4⟩ := (Tr.bal_node _ _ _ _).1 ht
    obtain ⟨l1, l2, l3, l4, l5⟩ := listFrom_mid (show listFrom m (lo.list ++ x :: hi.list) = true from hl)
    have hx := may_len l3
    have hk := fresh_kids n lo x hi
    unfold keepHi
    simp only [Tr.deep_node]
    by_cases c1 : x.off + x.len ≤ a
    · rw [if_pos c1]
      have := keepHi_fresh (a := a) b2 l5 (by omega)
      omega
    · rw [if_neg c1]
      by_cases c2 : a ≤ x.off
      · rw [if_pos c2]
        have i0 := keepHi_fresh (a := a) b1 l1 h0
        obtain ⟨_, i2, i3⟩ := keepHi_is (a := a) b1 l1 h0
        have j0 := joinT_fresh (lo := keepHi lo a) (hi := hi) x i2 b2
        obtain ⟨_, _, j3, _⟩ := joinT_is (lo := keepHi lo a) (hi := hi) x i2 b2
        omega
      · rw [if_neg c2]
        have j0 := joinT_fresh (lo := .nil) (hi := hi) ⟨a, x.off + x.len - a, x.phys + a - x.off, x.birth⟩ bal_nil b2
        obtain ⟨_, _, j3, _⟩ := joinT_is (lo := .nil) (hi := hi) ⟨a, x.off + x.len - a, x.phys + a - x.off, x.birth⟩ bal_nil b2
        simp only [Tr.fresh, Tr.deep] at j0 j3
        omega
/-- The same, by the part's own depth. -/
theorem keepLo_few : ∀ {t : Tr} {lo b : Int}, t.bal → listFrom lo t.list = true → 0 ≤ lo → (keepLo t b).fresh ≤ t.fresh + 7 * (keepLo t b).deep + 10
  | .nil, _, _, _, _, _ => by simp [keepLo, Tr.fresh]
  | .node n lo x hi, m, b, ht, hl, h0 => by
    obtain ⟨b1, b2, b3, b4⟩ := (Tr.bal_node _ _ _ _).1 ht
    obtain ⟨l1, l2, l3, l4, l5⟩ := listFrom_mid (show listFrom m (lo.list ++ x :: hi.list) = true from hl)
    have hk := fresh_kids n lo x hi
    have hf := keepLo_fresh (b := b) ht hl h0
    have hd : lo.deep ≤ (keepLo (Tr.node n lo x hi) b).deep ∨ b ≤ x.off := by
      by_cases c1 : b ≤ x.off
      · exact .inr c1
      · left
        unfold keepLo
        rw [if_neg c1]
        by_cases c2 : x.off + x.len ≤ b
        · rw [if_pos c2]
          obtain ⟨_, i2, _⟩ := keepLo_is (b := b) b2 l5 (by have := may_len l3; omega)
          have := (joinT_is (lo := lo) (hi := keepLo hi b) x b1 i2).2.2.1
          omega
        · rw [if_neg c2]
          have := (joinT_is (lo := lo) (hi := .nil) ⟨x.off, b - x.off, x.phys, x.birth⟩ b1 bal_nil).2.2.1
          omega
    rcases hd with hd | c1
    · rw [Tr.deep_node] at hf
      omega
    · have i0 := keepLo_few (b := b) b1 l1 h0
      have e : keepLo (Tr.node n lo x hi) b = keepLo lo b := by conv => lhs; unfold keepLo
                                                                rw [if_pos c1]
      rw [e]
      omega
theorem keepHi_few : ∀ {t : Tr} {lo a : Int}, t.bal → listFrom lo t.list = true → 0 ≤ lo → (keepHi t a).fresh ≤ t.fresh + 7 * (keepHi t a).deep + 10
  | .nil, _, _, _, _, _ => by simp [keepHi, Tr.fresh]
  | .node n lo x hi, m, a, ht, hl, h0 => by
    obtain ⟨b1, b2, b3, b4⟩ := (Tr.bal_node _ _ _ _).1 ht
    obtain ⟨l1, l2, l3, l4, l5⟩ := listFrom_mid (show listFrom m (lo.list ++ x :: hi.list) = true from hl)
    have hk := fresh_kids n lo x hi
    have hf := keepHi_fresh (a := a) ht hl h0
    have hd : hi.deep ≤ (keepHi (Tr.node n lo x hi) a).deep ∨ x.off + x.len ≤ a := by
      by_cases c1 : x.off + x.len ≤ a
      · exact .inr c1
      · left
        unfold keepHi
        rw [if_neg c1]
        by_cases c2 : a ≤ x.off
        · rw [if_pos c2]
          obtain ⟨_, i2, _⟩ := keepHi_is (a := a) b1 l1 h0
          have := (joinT_is (lo := keepHi lo a) (hi := hi) x i2 b2).2.2.1
          omega
        · rw [if_neg c2]
          have := (joinT_is (lo := .nil) (hi := hi) ⟨a, x.off + x.len - a, x.phys + a - x.off, x.birth⟩ bal_nil b2).2.2.1
          omega
    rcases hd with hd | c1
    · rw [Tr.deep_node] at hf
      omega
    · have i0 := keepHi_few (a := a) b2 l5 (by have := may_len l3; omega)
      have e : keepHi (Tr.node n lo x hi) a = keepHi hi a := by conv => lhs; unfold keepHi
                                                                rw [if_pos c1]
      rw [e]
      omega

/-! ### ends taken off; two trees put together -/
def popLast : Tr → Option (Tr × Ext)
  | .nil => none
  | .node _ lo x hi => match popLast hi with
    | none => some (lo, x)
    | some (hi', y) => some (balT lo x hi', y)
def popFirst : Tr → Option (Ext × Tr)
  | .nil => none
  | .node _ lo x hi => match popFirst lo with
    | none => some (x, hi)
    | some (y, lo') => some (y, balT lo' x hi)
theorem popLast_nil : ∀ {t : Tr}, popLast t = none → t = .nil
  | .nil, _ => rfl
  | .node n lo x hi, h => by
    unfold popLast at h
    split at h <;> cases h
theorem popFirst_nil : ∀ {t : Tr}, popFirst t = none → t = .nil
  | .nil, _ => rfl
  | .node n lo x hi, h => by
    unfold popFirst at h
    split at h <;> cases h
theorem popLast_is : ∀ {t t' : Tr} {y : Ext}, t.bal → popLast t = some (t', y) → t.list = t'.list ++ [y] ∧ t'.bal ∧ t'.deep ≤ t.deep ∧ t.deep ≤ t'.deep + 1 ∧ t'.fresh ≤ t.fresh + 3 * t.deep
  | .node n lo x hi, t', y, ht, h => by
    obtain ⟨b1, b2, b3, b4⟩ := (Tr.bal_node _ _ _ _).1 ht
    have hk := fresh_kids n lo x hi
    unfold popLast at h
    cases hp : popLast hi with
    | none =>
      rw [hp] at h
      simp only [Option.some.injEq, Prod.mk.injEq] at h
      obtain ⟨rfl, rfl⟩ := h
      have hn := popLast_nil hp
      subst hn
      simp only [Tr.deep, Tr.list] at *
      exact ⟨trivial, b1, by omega, by omega, by omega⟩
    | some q =>
      obtain ⟨hi', z⟩ := q
      rw [hp] at h
      simp only [Option.some.injEq, Prod.mk.injEq] at h
      obtain ⟨rfl, rfl⟩ := h
      obtain ⟨i1, i2, i3, i4, i5⟩ := popLast_is b2 hp
      obtain ⟨e1, e2, e3, e4⟩ := balT_is (lo := lo) (hi := hi') x b1 i2 (by omega) (by omega)
      have e5 := (balT_fresh lo x hi').1
      rw [Tr.deep_node]
      refine ⟨by rw [balT_list]; simp [Tr.list, i1], e1, ?_, ?_, by omega⟩
      · by_cases q : lo.deep ≤ hi'.deep + 1 ∧ hi'.deep ≤ lo.deep + 1
        · have := e4 q.1 q.2; omega
        · omega
      · by_cases q : lo.deep ≤ hi'.deep + 1 ∧ hi'.deep ≤ lo.deep + 1
        · have := e4 q.1 q.2; omega
        · omega
theorem popFirst_is : ∀ {t t' : Tr} {y : Ext}, t.bal → popFirst t = some (y, t') → t.list = y :: t'.list ∧ t'.bal ∧ t'.deep ≤ t.deep ∧ t.deep ≤ t'.deep + 1 ∧ t'.fresh ≤ t.fresh + 3 * t.deep
  | .node n lo x hi, t', y, ht, h => by
    obtain ⟨b1, b2, b3, b4⟩ := (Tr.bal_node _ _ _ _).1 ht
    have hk := fresh_kids n lo x hi
    unfold popFirst at h
    cases hp : popFirst lo with
    | none =>
      rw [hp] at h
      simp only [Option.some.injEq, Prod.mk.injEq] at h
      obtain ⟨rfl, rfl⟩ := h
      have hn := popFirst_nil hp
      subst hn
      simp only [Tr.deep, Tr.list] at *
      exact ⟨rfl, b2, by omega, by omega, by omega⟩
    | some q =>
      obtain ⟨z, lo'⟩ := q
      rw [hp] at h
      simp only [Option.some.injEq, Prod.mk.injEq] at h
      obtain ⟨rfl, rfl⟩ := h
      obtain ⟨i1, i2, i3, i4, i5⟩ := popFirst_is b1 hp
      obtain ⟨e1, e2, e3, e4⟩ := balT_is (lo := lo') (hi := hi) x i2 b2 (by omega) (by omega)
      have e5 := (balT_fresh lo' x hi).1
      rw [Tr.deep_node]
      refine ⟨by rw [balT_list]; simp [Tr.list, i1], e1, ?_, ?_, by omega⟩
      · by_cases q : lo'.deep ≤ hi.deep + 1 ∧ hi.deep ≤ lo'.deep + 1
        · have := e4 q.1 q.2; omega
        · omega
      · by_cases q : lo'.deep ≤ hi.deep + 1 ∧ hi.deep ≤ lo'.deep + 1
        · have := e4 q.1 q.2; omega
        · omega
/-- Both, without anything between them. -/
def join2 (lo hi : Tr) : Tr := match popLast lo with
  | none => hi
  | some (lo', y) => joinT lo' y hi
theorem join2_is {lo hi : Tr} (hl : lo.bal) (hh : hi.bal) : (join2 lo hi).list = lo.list ++ hi.list ∧ (join2 lo hi).bal ∧ (join2 lo hi).deep ≤ max lo.deep hi.deep + 1 ∧ hi.deep ≤ (join2 lo hi).deep ∧ lo.deep ≤ (join2 lo hi).deep + 1 ∧
    (join2 lo hi).fresh ≤ lo.fresh + hi.fresh + 3 * lo.deep + 2 * (lo.deep - hi.deep) + 2 * (hi.deep - lo.deep) + 3 := by
  unfold join2
  cases hp : popLast lo with
  | none =>
    have hn := popLast_nil hp
    subst hn
    simp only [Tr.list, Tr.deep, List.nil_append]
    exact ⟨trivial, hh, by omega, by omega, by omega, by omega⟩
  | some q =>
    obtain ⟨lo', y⟩ := q
    obtain ⟨i1, i2, i3, i4, i5⟩ := popLast_is hl hp
    obtain ⟨j1, j2, j3, j4⟩ := joinT_is (lo := lo') (hi := hi) y i2 hh
    have j5 := joinT_fresh (lo := lo') (hi := hi) y i2 hh
    simp only
    exact ⟨by rw [j1, i1]; simp, j2, by omega, by omega, by omega, by omega⟩
end Go.Proofs.Ytfcfffilfmbpeaa
