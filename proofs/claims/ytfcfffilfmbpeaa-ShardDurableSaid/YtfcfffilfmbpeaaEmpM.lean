/- Layer 6: the mathematics of lists of extents: their form, what of them lies where, and that a list in its form is known by its blocks. Nothing of the program is named here. -/
import Derived.Test.YtfcfffilfmbpeaaTurn
set_option linter.all false
namespace Go.Proofs.Ytfcfffilfmbpeaa
open Go.RowKit

/-- An extent. -/
structure Ext where
  off : Int
  len : Int
  phys : Int
  birth : Int
deriving DecidableEq
def rangeB (off n : Int) : Bool := decide (0 ≤ off) && decide (1 ≤ n) && decide (off ≤ 1024) && decide (n ≤ 1024 - off)
def Ext.may (x : Ext) : Bool := rangeB x.off x.len && decide (0 ≤ x.phys) && decide (x.phys ≤ 1099511627776 - x.len) && decide (0 ≤ x.birth) && decide (x.birth ≤ 1099511627776)
def oneB (a b : Ext) : Bool := decide (a.off + a.len = b.off) && decide (a.phys + a.len = b.phys) && decide (a.birth = b.birth)
/-- Each extent may be, and none begins ahead of 'lo' or of the end of the one ahead. -/
def listFrom : Int → List Ext → Bool
  | _, [] => true
  | lo, x :: l => x.may && decide (lo ≤ x.off) && listFrom (x.off + x.len) l
def listB (l : List Ext) : Bool := listFrom 0 l
/-- No neighbours are one. -/
def aloneB : List Ext → Bool
  | x :: y :: l => !oneB x y && aloneB (y :: l)
  | _ => true
def rightB (l : List Ext) : Bool := listB l && aloneB l
/-- Neighbours that are one, made one: x is what has come last. -/
def joinIn : Ext → List Ext → List Ext
  | x, [] => [x]
  | x, y :: l => if oneB x y then joinIn { x with len := x.len + y.len } l else x :: joinIn y l
def joinL : List Ext → List Ext
  | [] => []
  | x :: l => joinIn x l
/-- What of an extent lies from a on, ahead of b. -/
def clip (x : Ext) (a b : Int) : Option Ext :=
  if max x.off a < min (x.off + x.len) b then some ⟨max x.off a, min (x.off + x.len) b - max x.off a, x.phys + max x.off a - x.off, x.birth⟩ else none
def partL (l : List Ext) (a b : Int) : List Ext := l.filterMap (clip · a b)

/-! ### what a list has at a block -/
def Ext.has (x : Ext) (i : Int) : Bool := decide (x.off ≤ i) && decide (i < x.off + x.len)
def atL : List Ext → Int → Option (Int × Int)
  | [], _ => none
  | x :: l, i => if x.has i then some (x.phys + i - x.off, x.birth) else atL l i
theorem may_len {x : Ext} (h : x.may = true) : 1 ≤ x.len ∧ 0 ≤ x.off ∧ x.off + x.len ≤ 1024 ∧ 0 ≤ x.phys ∧ x.phys + x.len ≤ 1099511627776 ∧ 0 ≤ x.birth ∧ x.birth ≤ 1099511627776 := by
  simp only [Ext.may, rangeB, Bool.and_eq_true, decide_eq_true_eq] at h
  omega
theorem may_of {x : Ext} (h : 1 ≤ x.len ∧ 0 ≤ x.off ∧ x.off + x.len ≤ 1024 ∧ 0 ≤ x.phys ∧ x.phys + x.len ≤ 1099511627776 ∧ 0 ≤ x.birth ∧ x.birth ≤ 1099511627776) : x.may = true := by
  simp only [Ext.may, rangeB, Bool.and_eq_true, decide_eq_true_eq]
  omega
theorem listFrom_cons {lo : Int} {x : Ext} {l : List Ext} : listFrom lo (x :: l) = true ↔ x.may = true ∧ lo ≤ x.off ∧ listFrom (x.off + x.len) l = true := by
  simp [listFrom, and_assoc]
theorem listFrom_less {lo lo' : Int} {l : List Ext} (h : listFrom lo l = true) (hl : lo' ≤ lo) : listFrom lo' l = true := by
  cases l with
  | nil => rfl
  | cons x l => rw [listFrom_cons] at h ⊢; exact ⟨h.1, by omega, h.2.2⟩
/-- Nothing lies ahead of a list's beginning. -/
theorem at_below : ∀ {l : List Ext} {lo i : Int}, listFrom lo l = true → i < lo → atL l i = none
  | [], _, _, _, _ => rfl
  | x :: l, lo, i, h, hi => by
    rw [listFrom_cons] at h
    have hm := may_len h.1
    unfold atL
    rw [if_neg (by simp [Ext.has]; omega)]
    exact at_below h.2.2 (by omega)
theorem has_iff {x : Ext} {i : Int} : x.has i = true ↔ x.off ≤ i ∧ i < x.off + x.len := by simp [Ext.has]
theorem at_head {x : Ext} {l : List Ext} {i : Int} (h : x.off ≤ i ∧ i < x.off + x.len) : atL (x :: l) i = some (x.phys + i - x.off, x.birth) := by
  unfold atL; rw [if_pos (has_iff.2 h)]
theorem at_tail {x : Ext} {l : List Ext} {i : Int} (h : ¬ (x.off ≤ i ∧ i < x.off + x.len)) : atL (x :: l) i = atL l i := by
  conv => lhs; unfold atL
  rw [if_neg (fun e => h (has_iff.1 e))]
/-- Behind the first extent's end a list in its form does not go on as it did. -/
theorem at_stop {x : Ext} {l : List Ext} {lo : Int} (h : listFrom lo (x :: l) = true) (ha : aloneB (x :: l) = true) : atL (x :: l) (x.off + x.len) ≠ some (x.phys + x.len, x.birth) := by
  rw [listFrom_cons] at h
  rw [at_tail (by omega)]
  cases l with
  | nil => simp [atL]
  | cons y l =>
    have h2 := h.2.2
    rw [listFrom_cons] at h2
    have hy := may_len h2.1
    simp only [aloneB, Bool.and_eq_true, Bool.not_eq_true'] at ha
    by_cases e : x.off + x.len = y.off
    · rw [at_head (by omega)]
      intro he
      simp only [Option.some.injEq, Prod.mk.injEq] at he
      have := ha.1
      simp only [oneB, Bool.and_eq_false_iff, decide_eq_false_iff_not] at this
      omega
    · rw [at_tail (by omega), at_below h2.2.2 (by omega)]
      simp
theorem alone_tail {x : Ext} {l : List Ext} (h : aloneB (x :: l) = true) : aloneB l = true := by
  cases l with
  | nil => rfl
  | cons y l => simp only [aloneB, Bool.and_eq_true] at h; exact h.2
/-- A list in its form is known by its blocks. -/
theorem form_unique : ∀ {l l' : List Ext} {lo : Int}, listFrom lo l = true → listFrom lo l' = true → aloneB l = true → aloneB l' = true → (∀ i, lo ≤ i → atL l i = atL l' i) → l = l'
  | [], [], _, _, _, _, _, _ => rfl
  | [], y :: l', lo, _, h', _, _, he => by
    rw [listFrom_cons] at h'
    have hy := may_len h'.1
    have := he y.off (by omega)
    rw [at_head (by omega)] at this
    cases this
  | x :: l, [], lo, h, _, _, _, he => by
    rw [listFrom_cons] at h
    have hx := may_len h.1
    have := he x.off (by omega)
    rw [at_head (by omega)] at this
    cases this
  | x :: l, y :: l', lo, h, h', ha, ha', he => by
    have h0 := h
    have h0' := h'
    rw [listFrom_cons] at h h'
    have hx := may_len h.1
    have hy := may_len h'.1
    -- the beginnings
    have ho : x.off = y.off := by
      rcases Int.lt_trichotomy x.off y.off with hlt | heq | hgt
      · have := he x.off (by omega)
        rw [at_head (by omega), at_tail (by omega), at_below h'.2.2 (by omega)] at this
        cases this
      · exact heq
      · have := he y.off (by omega)
        rw [at_tail (by omega), at_below h.2.2 (by omega), at_head (by omega)] at this
        cases this
    have hpb : x.phys = y.phys ∧ x.birth = y.birth := by
      have := he x.off (by omega)
      rw [at_head (by omega), at_head (by omega)] at this
      simp only [Option.some.injEq, Prod.mk.injEq] at this
      omega
    have hl : x.len = y.len := by
      rcases Int.lt_trichotomy x.len y.len with hlt | heq | hgt
      · exfalso
        have h1 := at_stop h0 ha
        rw [he _ (by omega), at_head (by omega)] at h1
        apply h1
        simp only [Option.some.injEq, Prod.mk.injEq]
        omega
      · exact heq
      · exfalso
        have h1 := at_stop h0' ha'
        rw [← he _ (by omega), at_head (by omega)] at h1
        apply h1
        simp only [Option.some.injEq, Prod.mk.injEq]
        omega
    have hxy : x = y := by
      obtain ⟨a, b, c, d⟩ := x
      obtain ⟨a', b', c', d'⟩ := y
      simp only at ho hpb hl
      simp only [Ext.mk.injEq]
      omega
    subst hxy
    have := form_unique (l := l) (l' := l') (lo := x.off + x.len) h.2.2 h'.2.2 (alone_tail ha) (alone_tail ha') fun i hi => by
      have := he i (by omega)
      rwa [at_tail (by omega), at_tail (by omega)] at this
    rw [this]

/-! ### lists put behind one another -/
theorem at_app : ∀ (l l' : List Ext) (i : Int), atL (l ++ l') i = match atL l i with | some v => some v | none => atL l' i
  | [], _, _ => rfl
  | x :: l, l', i => by
    rw [List.cons_append]
    by_cases h : x.off ≤ i ∧ i < x.off + x.len
    · rw [at_head h, at_head h]
    · rw [at_tail h, at_tail h, at_app l l' i]
/-- All extents end at b, or ahead of it. -/
def endsB (l : List Ext) (b : Int) : Prop := ∀ x ∈ l, x.off + x.len ≤ b
theorem listFrom_app : ∀ {l l' : List Ext} {lo b : Int}, listFrom lo l = true → endsB l b → listFrom b l' = true → lo ≤ b → listFrom lo (l ++ l') = true
  | [], l', lo, b, _, _, h', hb => listFrom_less h' hb
  | x :: l, l', lo, b, h, he, h', hb => by
    rw [listFrom_cons] at h
    rw [List.cons_append, listFrom_cons]
    exact ⟨h.1, h.2.1, listFrom_app h.2.2 (fun y hy => he y (List.mem_cons_of_mem _ hy)) h' (he x List.mem_cons_self)⟩
theorem at_beyond : ∀ {l : List Ext} {b i : Int}, endsB l b → b ≤ i → atL l i = none
  | [], _, _, _, _ => rfl
  | x :: l, b, i, h, hi => by
    have := h x List.mem_cons_self
    rw [at_tail (by omega)]
    exact at_beyond (fun y hy => h y (List.mem_cons_of_mem _ hy)) hi
theorem listFrom_mem : ∀ {l : List Ext} {lo : Int}, listFrom lo l = true → ∀ x ∈ l, x.may = true ∧ lo ≤ x.off
  | x :: l, lo, h, y, hy => by
    rw [listFrom_cons] at h
    have hm := may_len h.1
    rcases List.mem_cons.1 hy with rfl | hy
    · exact ⟨h.1, h.2.1⟩
    · have := listFrom_mem h.2.2 y hy
      exact ⟨this.1, by omega⟩
theorem list_ends {l : List Ext} {lo : Int} (h : listFrom lo l = true) : endsB l 1024 := fun x hx => by
  have := may_len (listFrom_mem h x hx).1
  omega
theorem alone_app : ∀ {l l' : List Ext}, aloneB l = true → aloneB l' = true → (∀ x ∈ l, ∀ y ∈ l', oneB x y = false) → aloneB (l ++ l') = true
  | [], _, _, h', _ => h'
  | [x], [], _, _, _ => rfl
  | [x], y :: l', _, h', hn => by
    show aloneB (x :: y :: l') = true
    simp only [aloneB, Bool.and_eq_true, Bool.not_eq_true']
    exact ⟨hn x List.mem_cons_self y List.mem_cons_self, h'⟩
  | x :: z :: l, l', h, h', hn => by
    show aloneB (x :: z :: (l ++ l')) = true
    simp only [aloneB, Bool.and_eq_true] at h ⊢
    exact ⟨h.1, alone_app (l := z :: l) h.2 h' fun a ha b hb => hn a (List.mem_cons_of_mem _ ha) b hb⟩
theorem one_gap {x y : Ext} (h : x.off + x.len < y.off) : oneB x y = false := by
  simp only [oneB, Bool.and_eq_false_iff, decide_eq_false_iff_not]
  omega

/-! ### parts -/
theorem clip_some {x y : Ext} {a b : Int} (h : clip x a b = some y) : y.off = max x.off a ∧ y.off + y.len = min (x.off + x.len) b ∧ y.phys - y.off = x.phys - x.off ∧ y.birth = x.birth ∧ 1 ≤ y.len := by
  unfold clip at h
  split at h
  · rename_i hlt
    injection h with h
    subst h
    exact ⟨rfl, by simp only; omega, by simp only; omega, rfl, by simp only; omega⟩
  · cases h
theorem clip_none {x : Ext} {a b : Int} (h : clip x a b = none) : min (x.off + x.len) b ≤ max x.off a := by
  unfold clip at h
  split at h
  · cases h
  · omega
theorem part_cons (x : Ext) (l : List Ext) (a b : Int) : partL (x :: l) a b = match clip x a b with | some y => y :: partL l a b | none => partL l a b := by
  unfold partL
  rw [List.filterMap_cons]
  cases clip x a b <;> rfl
theorem part_at : ∀ {l : List Ext} {lo a b : Int}, listFrom lo l = true → ∀ i, atL (partL l a b) i = if a ≤ i ∧ i < b then atL l i else none
  | [], _, a, b, _, i => by simp [partL, atL]
  | x :: l, lo, a, b, h, i => by
    rw [listFrom_cons] at h
    have hx := may_len h.1
    have ih := part_at (a := a) (b := b) h.2.2 i
    rw [part_cons]
    cases hc : clip x a b with
    | none =>
      have := clip_none hc
      simp only
      rw [ih]
      by_cases hi : a ≤ i ∧ i < b
      · rw [if_pos hi, if_pos hi]
        by_cases hxi : x.off ≤ i ∧ i < x.off + x.len
        · omega
        · rw [at_tail hxi]
      · rw [if_neg hi, if_neg hi]
    | some y =>
      obtain ⟨h1, h2, h3, h4, h5⟩ := clip_some hc
      simp only
      by_cases hxi : x.off ≤ i ∧ i < x.off + x.len
      · by_cases hi : a ≤ i ∧ i < b
        · rw [if_pos hi, at_head (by omega), at_head hxi]
          simp only [Option.some.injEq, Prod.mk.injEq]
          omega
        · rw [if_neg hi, at_tail (by omega), ih, if_neg hi]
      · rw [at_tail (by omega), ih]
        by_cases hi : a ≤ i ∧ i < b
        · rw [if_pos hi, if_pos hi, at_tail hxi]
        · rw [if_neg hi, if_neg hi]
theorem part_list : ∀ {l : List Ext} {lo a b : Int}, listFrom lo l = true → listFrom (max lo a) (partL l a b) = true
  | [], _, _, _, _ => rfl
  | x :: l, lo, a, b, h => by
    rw [listFrom_cons] at h
    have hx := may_len h.1
    have ih := part_list (a := a) (b := b) h.2.2
    rw [part_cons]
    cases hc : clip x a b with
    | none =>
      simp only
      exact listFrom_less ih (by omega)
    | some y =>
      obtain ⟨h1, h2, h3, h4, h5⟩ := clip_some hc
      simp only
      rw [listFrom_cons]
      exact ⟨may_of (by omega), by omega, listFrom_less ih (by omega)⟩
theorem part_ends {l : List Ext} {a b : Int} : endsB (partL l a b) b := fun y hy => by
  obtain ⟨x, _, hc⟩ := List.mem_filterMap.1 hy
  have := clip_some hc
  omega
theorem part_from {l : List Ext} {a b : Int} : ∀ y ∈ partL l a b, a ≤ y.off ∧ 1 ≤ y.len := fun y hy => by
  obtain ⟨x, _, hc⟩ := List.mem_filterMap.1 hy
  have := clip_some hc
  omega
/-- Where the first extent begins behind b nothing is part. -/
theorem part_nil {l : List Ext} {lo a b : Int} (h : listFrom lo l = true) (hb : b ≤ lo) : partL l a b = [] := by
  unfold partL
  rw [List.filterMap_eq_nil_iff]
  intro x hx
  have := listFrom_mem h x hx
  have hm := may_len this.1
  unfold clip
  rw [if_neg (by omega)]
theorem part_alone : ∀ {l : List Ext} {lo a b : Int}, listFrom lo l = true → aloneB l = true → aloneB (partL l a b) = true
  | [], _, _, _, _, _ => rfl
  | x :: l, lo, a, b, h, ha => by
    rw [listFrom_cons] at h
    have hx := may_len h.1
    have ih := part_alone (a := a) (b := b) h.2.2 (alone_tail ha)
    rw [part_cons]
    cases hc : clip x a b with
    | none => simp only; exact ih
    | some x' =>
      obtain ⟨h1, h2, h3, h4, h5⟩ := clip_some hc
      simp only
      cases l with
      | nil => rfl
      | cons y l =>
        have hl := h.2.2
        rw [listFrom_cons] at hl
        have hy := may_len hl.1
        rw [part_cons] at ih ⊢
        cases hc2 : clip y a b with
        | none =>
          have hn := clip_none hc2
          have : partL l a b = [] := part_nil hl.2.2 (by omega)
          simp only [this]
          rfl
        | some y' =>
          obtain ⟨g1, g2, g3, g4, g5⟩ := clip_some hc2
          rw [hc2] at ih
          simp only at ih ⊢
          simp only [aloneB, Bool.and_eq_true, Bool.not_eq_true'] at ha ⊢
          refine ⟨?_, ih⟩
          have := ha.1
          simp only [oneB, Bool.and_eq_false_iff, decide_eq_false_iff_not] at this ⊢
          omega

/-! ### joining -/
theorem join_head (x : Ext) : ∀ (l : List Ext), ∃ n r, joinIn x l = { x with len := n } :: r
  | [] => ⟨x.len, [], rfl⟩
  | y :: l => by
    unfold joinIn
    split
    · obtain ⟨n, r, h⟩ := join_head { x with len := x.len + y.len } l
      exact ⟨n, r, h⟩
    · exact ⟨x.len, _, rfl⟩
theorem one_is {x y : Ext} (h : oneB x y = true) : x.off + x.len = y.off ∧ x.phys + x.len = y.phys ∧ x.birth = y.birth := by
  simp only [oneB, Bool.and_eq_true, decide_eq_true_eq] at h
  omega
theorem joinIn_is : ∀ {l : List Ext} {x : Ext} {lo : Int}, listFrom lo (x :: l) = true → listFrom lo (joinIn x l) = true ∧ aloneB (joinIn x l) = true ∧ ∀ i, atL (joinIn x l) i = atL (x :: l) i
  | [], x, lo, h => ⟨h, rfl, fun _ => rfl⟩
  | y :: l, x, lo, h => by
    have h0 := h
    rw [listFrom_cons] at h
    have hx := may_len h.1
    have h2 := h.2.2
    rw [listFrom_cons] at h2
    have hy := may_len h2.1
    unfold joinIn
    by_cases ho : oneB x y = true
    · rw [if_pos ho]
      obtain ⟨o1, o2, o3⟩ := one_is ho
      obtain ⟨r1, r2, r3⟩ := joinIn_is (l := l) (x := { x with len := x.len + y.len }) (lo := lo) (by
        rw [listFrom_cons]
        exact ⟨may_of (by simp only; omega), h.2.1, listFrom_less h2.2.2 (by simp only; omega)⟩)
      refine ⟨r1, r2, fun i => ?_⟩
      rw [r3 i]
      by_cases e1 : x.off ≤ i ∧ i < x.off + x.len
      · rw [at_head (by simp only; omega), at_head e1]
      · by_cases e2 : y.off ≤ i ∧ i < y.off + y.len
        · rw [at_head (by simp only; omega), at_tail e1, at_head e2]
          simp only [Option.some.injEq, Prod.mk.injEq]
          omega
        · rw [at_tail (by simp only; omega), at_tail e1, at_tail e2]
    · rw [if_neg ho]
      obtain ⟨r1, r2, r3⟩ := joinIn_is (l := l) (x := y) (lo := x.off + x.len) h.2.2
      refine ⟨by rw [listFrom_cons]; exact ⟨h.1, h.2.1, r1⟩, ?_, fun i => ?_⟩
      · obtain ⟨n, r, hj⟩ := join_head y l
        rw [hj] at r2 ⊢
        simp only [aloneB, Bool.and_eq_true, Bool.not_eq_true']
        refine ⟨?_, r2⟩
        simpa [oneB] using ho
      · by_cases e1 : x.off ≤ i ∧ i < x.off + x.len
        · rw [at_head e1, at_head e1]
        · rw [at_tail e1, at_tail e1, r3 i]
theorem join_is {l : List Ext} {lo : Int} (h : listFrom lo l = true) : listFrom lo (joinL l) = true ∧ aloneB (joinL l) = true ∧ ∀ i, atL (joinL l) i = atL l i := by
  cases l with
  | nil => exact ⟨rfl, rfl, fun _ => rfl⟩
  | cons x l => exact joinIn_is h
theorem joinIn_alone : ∀ {l : List Ext} {x : Ext}, aloneB (x :: l) = true → joinIn x l = x :: l
  | [], _, _ => rfl
  | y :: l, x, h => by
    have ht := alone_tail h
    simp only [aloneB, Bool.and_eq_true, Bool.not_eq_true'] at h
    unfold joinIn
    rw [if_neg (by rw [h.1]; simp), joinIn_alone ht]
theorem join_alone {l : List Ext} (h : aloneB l = true) : joinL l = l := by
  cases l with
  | nil => rfl
  | cons x l => exact joinIn_alone h

/-! ### the document's answers -/
def putL (l : List Ext) (x : Ext) : List Ext := joinL (partL l 0 x.off ++ x :: partL l (x.off + x.len) 1024)
def cutL (l : List Ext) (off n : Int) : List Ext := partL l 0 off ++ partL l (off + n) 1024
theorem right_is {l : List Ext} : rightB l = true ↔ listFrom 0 l = true ∧ aloneB l = true := by simp [rightB, listB]
theorem part_right {l : List Ext} {a b : Int} (h : rightB l = true) (ha : 0 ≤ a) : rightB (partL l a b) = true := by
  rw [right_is] at h ⊢
  exact ⟨listFrom_less (part_list h.1) (by omega), part_alone h.1 h.2⟩
theorem at_out {l : List Ext} {i : Int} (h : listFrom 0 l = true) (hi : ¬ (0 ≤ i ∧ i < 1024)) : atL l i = none := by
  by_cases h0 : 0 ≤ i
  · exact at_beyond (list_ends h) (by omega)
  · exact at_below h (by omega)
theorem put_is {l : List Ext} {x : Ext} (h : rightB l = true) (hx : x.may = true) : rightB (putL l x) = true ∧ ∀ i, atL (putL l x) i = if x.off ≤ i ∧ i < x.off + x.len then some (x.phys + i - x.off, x.birth) else atL l i := by
  rw [right_is] at h
  have hm := may_len hx
  have h1 : listFrom 0 (partL l 0 x.off ++ x :: partL l (x.off + x.len) 1024) = true :=
    listFrom_app (b := x.off) (listFrom_less (part_list h.1) (by omega)) part_ends (by rw [listFrom_cons]; exact ⟨hx, Int.le_refl _, listFrom_less (part_list h.1) (by omega)⟩) (by omega)
  obtain ⟨r1, r2, r3⟩ := join_is h1
  refine ⟨right_is.2 ⟨r1, r2⟩, fun i => ?_⟩
  unfold putL
  rw [r3 i, at_app, part_at h.1]
  by_cases e : x.off ≤ i ∧ i < x.off + x.len
  · rw [if_neg (by omega), if_pos e]
    simp only
    rw [at_head e]
  · rw [if_neg e]
    by_cases e2 : 0 ≤ i ∧ i < x.off
    · rw [if_pos e2]
      cases hh : atL l i with
      | some v => rfl
      | none =>
        simp only
        rw [at_tail e, part_at h.1, if_neg (by omega)]
    · rw [if_neg e2]
      simp only
      rw [at_tail e, part_at h.1]
      by_cases e3 : x.off + x.len ≤ i ∧ i < 1024
      · rw [if_pos e3]
      · rw [if_neg e3, at_out h.1 (by omega)]
theorem cut_is {l : List Ext} {off n : Int} (h : rightB l = true) (hr : rangeB off n = true) : rightB (cutL l off n) = true ∧ ∀ i, atL (cutL l off n) i = if off ≤ i ∧ i < off + n then none else atL l i := by
  rw [right_is] at h
  have hm : 0 ≤ off ∧ 1 ≤ n ∧ off + n ≤ 1024 := by
    simp only [rangeB, Bool.and_eq_true, decide_eq_true_eq] at hr
    omega
  have h1 : listFrom 0 (cutL l off n) = true := listFrom_app (b := off) (listFrom_less (part_list h.1) (by omega)) part_ends (listFrom_less (part_list h.1) (by omega)) (by omega)
  refine ⟨right_is.2 ⟨h1, alone_app (part_alone h.1 h.2) (part_alone h.1 h.2) fun x hx y hy => one_gap ?_⟩, fun i => ?_⟩
  · have := part_ends x hx
    have := part_from y hy
    omega
  · unfold cutL
    rw [at_app, part_at h.1, part_at h.1]
    by_cases e : off ≤ i ∧ i < off + n
    · rw [if_pos e, if_neg (by omega), if_neg (by omega)]
    · rw [if_neg e]
      by_cases e2 : 0 ≤ i ∧ i < off
      · rw [if_pos e2]
        cases hh : atL l i with
        | some v => rfl
        | none => simp only; rw [if_neg (by omega)]
      · rw [if_neg e2]
        simp only
        by_cases e3 : off + n ≤ i ∧ i < 1024
        · rw [if_pos e3]
        · rw [if_neg e3, at_out h.1 (by omega)]
/-- Any list in its form that has the blocks is the document's. -/
theorem form_is {l l' : List Ext} (h : rightB l = true) (h' : rightB l' = true) (he : ∀ i, 0 ≤ i → i < 1024 → atL l i = atL l' i) : l = l' := by
  rw [right_is] at h h'
  refine form_unique h.1 h'.1 h.2 h'.2 fun i hi => ?_
  by_cases e : i < 1024
  · exact he i hi e
  · rw [at_out h.1 (by omega), at_out h'.1 (by omega)]

/-! ### one block; what is younger; extents put in any order -/
theorem at_mem : ∀ {l : List Ext} {lo i : Int} {x : Ext}, listFrom lo l = true → x ∈ l → x.has i = true → atL l i = some (x.phys + i - x.off, x.birth)
  | y :: l, lo, i, x, h, hx, hi => by
    rw [listFrom_cons] at h
    have hy := may_len h.1
    have hxi := has_iff.1 hi
    rcases List.mem_cons.1 hx with rfl | hx
    · exact at_head hxi
    · have := (listFrom_mem h.2.2 x hx).2
      rw [at_tail (by omega)]
      exact at_mem h.2.2 hx hi
theorem at_none : ∀ {l : List Ext} {i : Int}, (∀ x ∈ l, x.has i = false) → atL l i = none
  | [], _, _ => rfl
  | x :: l, i, h => by
    have := h x List.mem_cons_self
    rw [at_tail (fun e => by rw [has_iff.2 e] at this; cases this)]
    exact at_none fun y hy => h y (List.mem_cons_of_mem _ hy)
theorem at_some : ∀ {l : List Ext} {i : Int} {v : Int × Int}, atL l i = some v → ∃ x ∈ l, x.has i = true
  | x :: l, i, v, h => by
    by_cases e : x.off ≤ i ∧ i < x.off + x.len
    · exact ⟨x, List.mem_cons_self, has_iff.2 e⟩
    · rw [at_tail e] at h
      obtain ⟨y, hy, hh⟩ := at_some h
      exact ⟨y, List.mem_cons_of_mem _ hy, hh⟩
/-- What is put in any order: of l's own extents, some. -/
theorem puts_is {l : List Ext} (hl : rightB l = true) : ∀ (xs a : List Ext) (S : Ext → Prop), rightB a = true → (∀ x ∈ xs, x ∈ l) → (∀ x, S x → x ∈ l) → (∀ i, atL a i = none ↔ ∀ x, S x → x.has i = false) → (∀ i v, atL a i = some v → atL l i = some v) →
    rightB (xs.foldl putL a) = true ∧ (∀ i, atL (xs.foldl putL a) i = none ↔ ∀ x, (S x ∨ x ∈ xs) → x.has i = false) ∧ ∀ i v, atL (xs.foldl putL a) i = some v → atL l i = some v
  | [], a, S, ha, _, _, hn, hv => ⟨ha, fun i => by rw [List.foldl_nil, hn i]; simp, hv⟩
  | x :: xs, a, S, ha, hx, hS, hn, hv => by
    have hl' := (right_is.1 hl).1
    have hxl := hx x List.mem_cons_self
    have hm := (listFrom_mem hl' x hxl).1
    obtain ⟨p1, p2⟩ := put_is ha hm
    obtain ⟨q1, q2, q3⟩ := puts_is hl xs (putL a x) (fun y => S y ∨ y = x) p1 (fun y hy => hx y (List.mem_cons_of_mem _ hy)) (fun y hy => hy.elim (hS y) (fun e => e ▸ hxl)) (fun i => by
      rw [p2 i]
      by_cases e : x.off ≤ i ∧ i < x.off + x.len
      · rw [if_pos e]
        constructor
        · intro h; cases h
        · intro h
          have := h x (.inr rfl)
          rw [has_iff.2 e] at this
          cases this
      · rw [if_neg e, hn i]
        constructor
        · rintro h y (hy | rfl)
          · exact h y hy
          · cases hb : y.has i with
            | false => rfl
            | true => exact (e (has_iff.1 hb)).elim
        · exact fun h y hy => h y (.inl hy)) (fun i v => by
      rw [p2 i]
      by_cases e : x.off ≤ i ∧ i < x.off + x.len
      · rw [if_pos e]
        intro h
        rw [← h]
        exact at_mem hl' hxl (has_iff.2 e)
      · rw [if_neg e]; exact hv i v)
    refine ⟨q1, fun i => ?_, q3⟩
    rw [List.foldl_cons, q2 i]
    constructor
    · rintro h y (hy | hy)
      · exact h y (.inl (.inl hy))
      · rcases List.mem_cons.1 hy with rfl | hy
        · exact h y (.inl (.inr rfl))
        · exact h y (.inr hy)
    · rintro h y ((hy | rfl) | hy)
      · exact h y (.inl hy)
      · exact h y (.inr List.mem_cons_self)
      · exact h y (.inr (List.mem_cons_of_mem _ hy))
/-- All of l's extents, put in any order, are l. -/
theorem puts_all {l : List Ext} (hl : rightB l = true) {xs : List Ext} (h1 : ∀ x ∈ xs, x ∈ l) (h2 : ∀ x ∈ l, x ∈ xs) : xs.foldl putL [] = l := by
  obtain ⟨q1, q2, q3⟩ := puts_is hl xs [] (fun _ => False) rfl h1 (fun _ h => h.elim) (fun i => by simp [atL]) (fun i v h => by simp [atL] at h)
  refine form_is q1 hl fun i _ _ => ?_
  cases h : atL (xs.foldl putL []) i with
  | some v => exact (q3 i v h).symm
  | none =>
    have := (q2 i).1 h
    exact (at_none fun x hx => this x (.inr (h2 x hx))).symm
/-- What was cut and what is part, put together again, are all. -/
theorem back_all {l : List Ext} {off n : Int} (hl : rightB l = true) (hr : rangeB off n = true) : (partL l off (off + n)).foldl putL (cutL l off n) = l := by
  have hl' := (right_is.1 hl).1
  have hm : 0 ≤ off ∧ 1 ≤ n ∧ off + n ≤ 1024 := by
    simp only [rangeB, Bool.and_eq_true, decide_eq_true_eq] at hr
    omega
  obtain ⟨c1, c2⟩ := cut_is hl hr
  have hp := part_right (a := off) (b := off + n) hl hm.1
  have hp' := (right_is.1 hp).1
  have step : ∀ (xs a : List Ext), rightB a = true → (∀ x ∈ xs, x ∈ partL l off (off + n)) → (∀ i, ¬ (off ≤ i ∧ i < off + n) → atL a i = atL l i) → (∀ i, off ≤ i ∧ i < off + n → atL a i = none ∨ atL a i = atL l i) →
      rightB (xs.foldl putL a) = true ∧ (∀ i, ¬ (off ≤ i ∧ i < off + n) → atL (xs.foldl putL a) i = atL l i) ∧ (∀ i, off ≤ i ∧ i < off + n → (atL (xs.foldl putL a) i = none ∧ atL a i = none ∧ ∀ x ∈ xs, x.has i = false) ∨ atL (xs.foldl putL a) i = atL l i) := by
    intro xs
    induction xs with
    | nil => exact fun a ha _ h1 h2 => ⟨ha, h1, fun i hi => (h2 i hi).imp (fun h => ⟨h, h, by simp⟩) id⟩
    | cons x xs ih =>
      intro a ha hx h1 h2
      have hxp := hx x List.mem_cons_self
      have hmx := (listFrom_mem hp' x hxp).1
      have hx1 := (part_from x hxp).1
      have hx2 := part_ends x hxp
      obtain ⟨p1, p2⟩ := put_is ha hmx
      have hin : ∀ i, x.off ≤ i ∧ i < x.off + x.len → atL (putL a x) i = atL l i := fun i e => by
        rw [p2 i, if_pos e]
        have := at_mem hp' hxp (has_iff.2 e)
        rw [part_at hl', if_pos (by omega)] at this
        exact this.symm
      obtain ⟨q1, q2, q3⟩ := ih (putL a x) p1 (fun y hy => hx y (List.mem_cons_of_mem _ hy)) (fun i hi => by rw [p2 i, if_neg (by omega)]; exact h1 i hi) (fun i hi => by
        by_cases e : x.off ≤ i ∧ i < x.off + x.len
        · exact .inr (hin i e)
        · rw [p2 i, if_neg e]; exact h2 i hi)
      refine ⟨q1, q2, fun i hi => (q3 i hi).imp (fun ⟨r1, r2, r3⟩ => ?_) id⟩
      by_cases e : x.off ≤ i ∧ i < x.off + x.len
      · rw [p2 i, if_pos e] at r2; cases r2
      · rw [p2 i, if_neg e] at r2
        refine ⟨r1, r2, fun y hy => ?_⟩
        rcases List.mem_cons.1 hy with rfl | hy
        · cases hb : y.has i with
          | false => rfl
          | true => exact (e (has_iff.1 hb)).elim
        · exact r3 y hy
  obtain ⟨q1, q2, q3⟩ := step _ _ c1 (fun x h => h) (fun i hi => by rw [c2 i, if_neg hi]) (fun i hi => .inl (by rw [c2 i, if_pos hi]))
  refine form_is q1 hl fun i _ _ => ?_
  by_cases e : off ≤ i ∧ i < off + n
  · rcases q3 i e with ⟨r1, _, r3⟩ | h
    · rw [r1]
      cases hh : atL l i with
      | none => rfl
      | some v =>
        have : atL (partL l off (off + n)) i = some v := by rw [part_at hl', if_pos e]; exact hh
        obtain ⟨x, hx, hb⟩ := at_some this
        rw [r3 x hx] at hb
        cases hb
    · exact h
  · exact q2 i e
/-- What is younger. -/
def sinceL (l : List Ext) (b : Int) : List Ext := l.filter fun x => decide (b < x.birth)
/-- What a part of one block has. -/
theorem part_one : ∀ {l : List Ext} {lo i : Int}, listFrom lo l = true → (atL l i = none ∧ partL l i (i + 1) = []) ∨ ∃ p b, atL l i = some (p, b) ∧ partL l i (i + 1) = [⟨i, 1, p, b⟩]
  | [], _, _, _ => .inl ⟨rfl, rfl⟩
  | x :: l, lo, i, h => by
    rw [listFrom_cons] at h
    have hx := may_len h.1
    rw [part_cons]
    by_cases e : x.off ≤ i ∧ i < x.off + x.len
    · right
      have hc : clip x i (i + 1) = some ⟨i, 1, x.phys + i - x.off, x.birth⟩ := by
        unfold clip
        rw [if_pos (by omega)]
        simp only [Option.some.injEq, Ext.mk.injEq, and_true]
        omega
      rw [hc]
      exact ⟨_, _, at_head e, by simp only; rw [part_nil h.2.2 (by omega)]⟩
    · have hc : clip x i (i + 1) = none := by
        unfold clip
        rw [if_neg (by omega)]
      rw [hc, at_tail e]
      exact part_one h.2.2
end Go.Proofs.Ytfcfffilfmbpeaa
