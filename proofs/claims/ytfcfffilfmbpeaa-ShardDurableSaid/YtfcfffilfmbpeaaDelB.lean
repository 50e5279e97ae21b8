/- XDelM, XDelB. -/
import Derived.Test.YtfcfffilfmbpeaaEmpM
import Derived.Test.YtfcfffilfmbpeaaBloM
set_option linter.all false
namespace Go.Proofs.Ytfcfffilfmbpeaa
open Go.RowKit

/-- What a block shows, of a list over some units. -/
def unitOf (units : List Nat) (p : Int) : Nat := if p < (units.length : Int) then units.getD p.toNat 0 else 0
def showOf (units : List Nat) : Option (Int × Int) → Nat
  | some (p, _) => unitOf units p
  | none => 0
def showF (l : List Ext) (units : List Nat) (i : Int) : Nat := showOf units (atL l i)
/-- One block of b has grown from a's. -/
def grewB (gen : Int) : Option (Int × Int) → Option (Int × Int) → Bool
  | _, none => true
  | none, some (_, r) => decide (gen < r)
  | some (q, _), some (p, r) => decide (gen < r) || decide (p = q)
def grownL (a b : List Ext) (gen : Int) : Prop := ∀ i : Nat, i < 1024 → grewB gen (atL a i) (atL b i) = true
/-- Is a block young? -/
def isYoung (gen : Int) : Option (Int × Int) → Option (Int × Int) → Bool
  | _, some (_, r) => decide (gen < r)
  | a, none => a.isSome
def youngF (a b : List Ext) (gen : Int) (i : Nat) : Bool := isYoung gen (atL a i) (atL b i)
/-- Blocks that are unlike in what they show are young, where b has grown. -/
theorem unlike_young {units : List Nat} {gen : Int} {x y : Option (Int × Int)} (h : grewB gen x y = true) (hy : isYoung gen x y = false) : showOf units x = showOf units y := by
  cases y with
  | none =>
    cases x with
    | none => rfl
    | some v => simp [isYoung] at hy
  | some w =>
    obtain ⟨p, r⟩ := w
    have hr : ¬ gen < r := by simpa [isYoung] using hy
    cases x with
    | none => simp [grewB] at h; omega
    | some v =>
      obtain ⟨q, s⟩ := v
      have : p = q := by
        simp only [grewB, Bool.or_eq_true, decide_eq_true_eq] at h
        omega
      subst this
      rfl
/-- What the ops are made of. -/
def deltaM (a b : List Ext) (gen : Int) (units : List Nat) (i : Nat) : Option Nat := if youngF a b gen i then some (showF b units i) else none
/-- The ops make what b shows of what a shows. -/
theorem delta_makes {a b : List Ext} {gen : Int} (h : grownL a b gen) (units : List Nat) (i : Nat) (hi : i < 1024) :
    (shortS (deltaM a b gen units) 1024).foldl doF (showF a units) (i : Int) = showF b units i := by
  rw [do_told, short_told, if_pos hi]
  unfold deltaM
  by_cases hy : youngF a b gen i = true
  · rw [if_pos hy]; rfl
  · rw [if_neg hy]
    have hy2 : youngF a b gen i = false := by simpa using hy
    exact unlike_young (h i hi) hy2

/-! ### what grows -/
theorem grew_refl (gen : Int) (x : Option (Int × Int)) : grewB gen x x = true := by
  cases x with
  | none => rfl
  | some v => simp [grewB]
theorem grown_refl (l : List Ext) (gen : Int) : grownL l l gen := fun _ _ => grew_refl gen _
theorem grown_put {a b : List Ext} {gen : Int} {x : Ext} (h : grownL a b gen) (hb : rightB b = true) (hx : x.may = true) (hr : gen < x.birth) : grownL a (putL b x) gen := fun i hi => by
  rw [(put_is hb hx).2]
  by_cases e : x.off ≤ (i : Int) ∧ (i : Int) < x.off + x.len
  · rw [if_pos e]
    cases atL a i with
    | none => simp [grewB, hr]
    | some v => simp [grewB, hr]
  · rw [if_neg e]; exact h i hi
theorem grown_cut {a b : List Ext} {gen off n : Int} (h : grownL a b gen) (hb : rightB b = true) (hr : rangeB off n = true) : grownL a (cutL b off n) gen := fun i hi => by
  rw [(cut_is hb hr).2]
  by_cases e : off ≤ (i : Int) ∧ (i : Int) < off + n
  · rw [if_pos e]
    cases atL a i <;> rfl
  · rw [if_neg e]; exact h i hi

/-! ### nothing is young since the youngest -/
theorem at_birth : ∀ {l : List Ext} {i p r : Int}, atL l i = some (p, r) → ∃ x ∈ l, x.birth = r
  | x :: l, i, p, r, h => by
    by_cases e : x.off ≤ i ∧ i < x.off + x.len
    · rw [at_head e] at h
      simp only [Option.some.injEq, Prod.mk.injEq] at h
      exact ⟨x, List.mem_cons_self, h.2⟩
    · rw [at_tail e] at h
      obtain ⟨y, hy, hh⟩ := at_birth h
      exact ⟨y, List.mem_cons_of_mem _ hy, hh⟩
theorem young_self {l : List Ext} {gen : Int} (h : ∀ x ∈ l, x.birth ≤ gen) (i : Nat) : youngF l l gen i = false := by
  unfold youngF
  cases hx : atL l i with
  | none => rfl
  | some v =>
    obtain ⟨p, r⟩ := v
    obtain ⟨x, hm, hr⟩ := at_birth hx
    have := h x hm
    simp [isYoung]
    omega
theorem delta_self {l : List Ext} {gen : Int} (h : ∀ x ∈ l, x.birth ≤ gen) (units : List Nat) : shortS (deltaM l l gen units) 1024 = [] :=
  (short_nil _ _).2 fun i _ => by unfold deltaM; rw [young_self h]; rfl

/-! ### pieces: runs of blocks, each as long as can be -/
def runsTo (y : Nat → Bool) : Nat → List (Int × Int)
  | 0 => []
  | k + 1 => if y k then
      (match (runsTo y k).getLast? with
        | some q => if (match k with | 0 => false | j + 1 => y j) then (runsTo y k).dropLast ++ [(q.1, q.2 + 1)] else runsTo y k ++ [((k : Int), (k : Int) + 1)]
        | none => runsTo y k ++ [((k : Int), (k : Int) + 1)])
    else runsTo y k
structure RunInv (y : Nat → Bool) (k : Nat) (out : List (Int × Int)) : Prop where
  has : ∀ i : Nat, (∃ q ∈ out, q.1 ≤ (i : Int) ∧ (i : Int) < q.2) ↔ i < k ∧ y i = true
  ends : ∀ q ∈ out, 0 ≤ q.1 ∧ q.1 < q.2 ∧ q.2 ≤ (k : Int)
  last : ∀ j, k = j + 1 → y j = true → ∃ p q, out = p ++ [q] ∧ q.2 = (k : Int)
theorem runs_push {y : Nat → Bool} {k : Nat} {out : List (Int × Int)} (h : RunInv y k out) (hy : y k = true) : RunInv y (k + 1) (out ++ [((k : Int), (k : Int) + 1)]) := by
  refine ⟨fun i => ?_, fun q hq => ?_, fun j hj _ => ⟨out, _, rfl, by simp⟩⟩
  · constructor
    · rintro ⟨q, hq, h1, h2⟩
      rcases List.mem_append.1 hq with hq | hq
      · have := (h.has i).1 ⟨q, hq, h1, h2⟩
        exact ⟨by omega, this.2⟩
      · rw [List.mem_singleton.1 hq] at h1 h2
        simp only at h1 h2
        have : i = k := by omega
        subst this
        exact ⟨by omega, hy⟩
    · rintro ⟨h1, h2⟩
      by_cases e : i = k
      · subst e
        exact ⟨_, List.mem_append_right _ (List.mem_singleton.2 rfl), by simp, by simp only; omega⟩
      · obtain ⟨q, hq, h3⟩ := (h.has i).2 ⟨by omega, h2⟩
        exact ⟨q, List.mem_append_left _ hq, h3⟩
  · rcases List.mem_append.1 hq with hq | hq
    · have := h.ends q hq; omega
    · rw [List.mem_singleton.1 hq]; simp only; omega
theorem runs_grow {y : Nat → Bool} {k : Nat} {p : List (Int × Int)} {q : Int × Int} (h : RunInv y k (p ++ [q])) (hq2 : q.2 = (k : Int)) (hy : y k = true) : RunInv y (k + 1) (p ++ [(q.1, q.2 + 1)]) := by
  have hq1 := h.ends q (by simp)
  refine ⟨fun i => ?_, fun r hr => ?_, fun j hj _ => ⟨p, _, rfl, by simp only; omega⟩⟩
  · constructor
    · rintro ⟨r, hr, h1, h2⟩
      rcases List.mem_append.1 hr with hr | hr
      · have := (h.has i).1 ⟨r, List.mem_append_left _ hr, h1, h2⟩
        exact ⟨by omega, this.2⟩
      · rw [List.mem_singleton.1 hr] at h1 h2
        simp only at h1 h2
        by_cases e : i = k
        · subst e; exact ⟨by omega, hy⟩
        · have := (h.has i).1 ⟨q, by simp, h1, by omega⟩
          exact ⟨by omega, this.2⟩
    · rintro ⟨h1, h2⟩
      by_cases e : i = k
      · subst e
        exact ⟨_, List.mem_append_right _ (List.mem_singleton.2 rfl), by simp only; omega, by simp only; omega⟩
      · obtain ⟨r, hr, h3, h4⟩ := (h.has i).2 ⟨by omega, h2⟩
        rcases List.mem_append.1 hr with hr | hr
        · exact ⟨r, List.mem_append_left _ hr, h3, h4⟩
        · rw [List.mem_singleton.1 hr] at h3 h4
          exact ⟨_, List.mem_append_right _ (List.mem_singleton.2 rfl), h3, by simp only; omega⟩
  · rcases List.mem_append.1 hr with hr | hr
    · have := h.ends r (List.mem_append_left _ hr); omega
    · rw [List.mem_singleton.1 hr]; simp only; omega
theorem runs_inv (y : Nat → Bool) : ∀ k : Nat, RunInv y k (runsTo y k)
  | 0 => ⟨fun i => by simp [runsTo], by simp [runsTo], fun j hj => by omega⟩
  | k + 1 => by
    have h := runs_inv y k
    unfold runsTo
    by_cases hy : y k = true
    · rw [if_pos hy]
      have hp := runs_push h hy
      rcases hg : (runsTo y k).getLast? with _ | q
      · exact hp
      · simp only
        cases k with
        | zero => simpa using hp
        | succ j =>
          simp only
          by_cases hj : y j = true
          · rw [if_pos hj]
            obtain ⟨p, q2, e, e2⟩ := h.last j rfl hj
            rw [e] at hg h ⊢
            simp only [List.getLast?_append, List.getLast?_singleton, Option.some_or, Option.some.injEq] at hg
            subst hg
            rw [List.dropLast_concat]
            exact runs_grow h e2 hy
          · rw [if_neg hj]; exact hp
    · rw [if_neg hy]
      refine ⟨fun i => ?_, fun q hq => by have := h.ends q hq; omega, fun j hj h2 => ?_⟩
      · rw [h.has]
        constructor
        · rintro ⟨h1, h2⟩; exact ⟨by omega, h2⟩
        · rintro ⟨h1, h2⟩
          have : i ≠ k := by intro e; subst e; exact hy h2
          exact ⟨by omega, h2⟩
      · have : j = k := by omega
        subst this
        exact absurd h2 hy
/-- A block lies in some piece just if it is young. -/
theorem runs_has (y : Nat → Bool) (n i : Nat) : (∃ q ∈ runsTo y n, q.1 ≤ (i : Int) ∧ (i : Int) < q.2) ↔ i < n ∧ y i = true := (runs_inv y n).has i
theorem runs_nil {y : Nat → Bool} {n : Nat} (h : ∀ i, i < n → y i = false) : runsTo y n = [] := by
  cases hr : runsTo y n with
  | nil => rfl
  | cons q l =>
    have h1 := (runs_inv y n).ends q (by rw [hr]; simp)
    obtain ⟨i, hi⟩ := Int.eq_ofNat_of_zero_le h1.1
    have := (runs_has y n i).1 ⟨q, by rw [hr]; simp, by omega, by omega⟩
    rw [h i this.1] at this
    exact absurd this.2 (by simp)
end Go.Proofs.Ytfcfffilfmbpeaa

set_option linter.all false
namespace Go.Proofs.Ytfcfffilfmbpeaa
open Go.RowKit

abbrev Bl := Int × Int × Int
/-- The first k blocks of an extent: where it lies, its unit, its Birth. -/
def bkTo (x : Ext) (k : Nat) : List Bl := (List.range k).map fun (i : Nat) => (x.off + (i : Int), x.phys + (i : Int), x.birth)
def bkL (l : List Ext) : List Bl := l.flatMap fun x => bkTo x x.len.toNat
theorem bkTo_zero (x : Ext) : bkTo x 0 = [] := rfl
theorem bkTo_succ (x : Ext) (k : Nat) : bkTo x (k + 1) = bkTo x k ++ [(x.off + (k : Int), x.phys + (k : Int), x.birth)] := by simp [bkTo, List.range_succ]
theorem bkTo_len (x : Ext) (k : Nat) : (bkTo x k).length = k := by simp [bkTo]
theorem bkL_nil : bkL [] = [] := rfl
theorem bkL_cons (x : Ext) (l : List Ext) : bkL (x :: l) = bkTo x x.len.toNat ++ bkL l := by simp [bkL]
theorem bkL_app (l r : List Ext) : bkL (l ++ r) = bkL l ++ bkL r := by simp [bkL]
theorem take_one {α : Type} {l : List α} {k : Nat} {x : α} (h : l[k]? = some x) : l.take (k + 1) = l.take k ++ [x] := by
  obtain ⟨hk, rfl⟩ := List.getElem?_eq_some_iff.1 h
  rw [List.take_succ_eq_append_getElem hk]
theorem bkL_take {l : List Ext} {k : Nat} {x : Ext} (h : l[k]? = some x) : bkL (l.take (k + 1)) = bkL (l.take k) ++ bkTo x x.len.toNat := by
  rw [take_one h, bkL_app, bkL_cons, bkL_nil, List.append_nil]
theorem bkL_part {l : List Ext} {k : Nat} {x : Ext} (h : l[k]? = some x) {i : Nat} (hi : i ≤ x.len.toNat) : bkL (l.take k) ++ bkTo x i <+: bkL l := by
  have h1 : bkL (l.take (k + 1)) <+: bkL l := by
    refine ⟨bkL (l.drop (k + 1)), ?_⟩
    rw [← bkL_app, List.take_append_drop]
  refine List.IsPrefix.trans ?_ h1
  rw [bkL_take h]
  refine (List.prefix_append_right_inj _).2 ?_
  have : bkTo x i = (bkTo x x.len.toNat).take i := by
    simp [bkTo, ← List.map_take, List.take_range, Nat.min_eq_left hi]
  rw [this]
  exact List.take_prefix _ _
theorem bkL_lt {l : List Ext} {k : Nat} {x : Ext} (h : l[k]? = some x) {i : Nat} (hi : i < x.len.toNat) : (bkL (l.take k) ++ bkTo x i).length < (bkL l).length := by
  have := (bkL_part h (i := i + 1) hi).length_le
  simp only [List.length_append, bkTo_len] at this ⊢
  omega
theorem bkL_len {l : List Ext} (h : ∀ x ∈ l, x.may = true) : (bkL l).length ≤ l.length * 1024 := by
  induction l with
  | nil => simp [bkL]
  | cons x l ih =>
    have h1 := may_len (h x (by simp))
    have h2 := ih fun y hy => h y (by simp [hy])
    rw [bkL_cons, List.length_append, bkTo_len, List.length_cons]
    omega

/-! ### what is laid -/
def setF {β : Type} (g : Bl → β → β) (f : Int → β) (x : Bl) : Int → β := fun i => if i = x.1 then g x (f i) else f i
def laid {β : Type} (g : Bl → β → β) (f : Int → β) (xs : List Bl) : Int → β := xs.foldl (setF g) f
theorem laid_nil {β : Type} (g : Bl → β → β) (f : Int → β) : laid g f [] = f := rfl
theorem laid_snoc {β : Type} (g : Bl → β → β) (f : Int → β) (pre : List Bl) (x : Bl) : laid g f (pre ++ [x]) = setF g (laid g f pre) x := by simp [laid]
theorem laid_app {β : Type} (g : Bl → β → β) (f : Int → β) (a b : List Bl) : laid g f (a ++ b) = laid g (laid g f a) b := by simp [laid]
theorem laid_to {β : Type} (g : Bl → β → β) (f : Int → β) (x : Ext) (i : Int) : ∀ k : Nat, laid g f (bkTo x k) i = if x.off ≤ i ∧ i < x.off + (k : Int) then g (i, x.phys + i - x.off, x.birth) (f i) else f i
  | 0 => by
    rw [bkTo_zero, laid_nil, if_neg (by omega)]
  | k + 1 => by
    rw [bkTo_succ, laid_snoc]
    unfold setF
    by_cases e : i = x.off + (k : Int)
    · rw [if_pos e, if_pos (by omega), e]
      rw [show x.phys + (x.off + (k : Int)) - x.off = x.phys + (k : Int) by omega, laid_to g f x _ k, if_neg (by omega)]
    · rw [if_neg e, laid_to g f x i k]
      by_cases h : x.off ≤ i ∧ i < x.off + (k : Int)
      · rw [if_pos h, if_pos (by omega)]
      · rw [if_neg h, if_neg (by omega)]
def atG {β : Type} (g : Bl → β → β) (d : β) (l : List Ext) (i : Int) : β := match atL l i with | some (p, r) => g (i, p, r) d | none => d
theorem laid_bk {β : Type} (g : Bl → β → β) : ∀ {l : List Ext} {lo : Int} (_ : listFrom lo l = true) (f : Int → β) (i : Int), laid g f (bkL l) i = atG g (f i) l i
  | [], _, _, f, i => rfl
  | x :: l, lo, h, f, i => by
    rw [listFrom_cons] at h
    have hx := may_len h.1
    have hl : (x.len.toNat : Int) = x.len := by omega
    rw [bkL_cons, laid_app, laid_bk g h.2.2, laid_to, hl]
    unfold atG
    by_cases e : x.off ≤ i ∧ i < x.off + x.len
    · rw [at_head e, at_below h.2.2 e.2, if_pos e]
    · rw [at_tail e, if_neg e]
theorem mem_bk : ∀ {l : List Ext} {lo : Int} (_ : listFrom lo l = true) (y : Bl), y ∈ bkL l ↔ atL l y.1 = some y.2
  | [], _, _, y => by simp [bkL, atL]
  | x :: l, lo, h, y => by
    rw [listFrom_cons] at h
    have hx := may_len h.1
    rw [bkL_cons, List.mem_append, mem_bk h.2.2 y]
    have hm : y ∈ bkTo x x.len.toNat ↔ ∃ i : Nat, i < x.len.toNat ∧ (x.off + (i : Int), x.phys + (i : Int), x.birth) = y := by simp [bkTo]
    rw [hm]
    by_cases e : x.off ≤ y.1 ∧ y.1 < x.off + x.len
    · rw [at_head e, at_below h.2.2 e.2]
      constructor
      · rintro (⟨i, hi, rfl⟩ | h0)
        · simp only [Option.some.injEq, Prod.mk.injEq, and_true]; omega
        · cases h0
      · intro h0
        refine .inl ⟨(y.1 - x.off).toNat, by omega, ?_⟩
        obtain ⟨a, b, c⟩ := y
        simp only [Option.some.injEq, Prod.mk.injEq] at h0 e ⊢
        omega
    · rw [at_tail e]
      constructor
      · rintro (⟨i, hi, rfl⟩ | h0)
        · exact absurd (show x.off ≤ x.off + (i : Int) ∧ x.off + (i : Int) < x.off + x.len by omega) e
        · exact h0
      · exact fun h0 => .inr h0

/-- A block that may be, of a list whose blocks all lie ahead of N. -/
abbrev Bk (N : Nat) := { x : Bl // 0 ≤ x.1 ∧ x.1 < (N : Int) ∧ 0 ≤ x.2.1 ∧ x.2.1 ≤ 1099511627776 ∧ 0 ≤ x.2.2 ∧ x.2.2 ≤ 1099511627776 }
abbrev bls {N : Nat} (xs : List (Bk N)) : List Bl := xs.map Subtype.val
theorem bls_snoc {N : Nat} (xs : List (Bk N)) (x : Bk N) : bls (xs ++ [x]) = bls xs ++ [x.1] := by simp [bls]
theorem bk_ok {x : Ext} (h : x.may = true) {N i : Nat} (hN : x.off + x.len ≤ (N : Int)) (hi : (i : Int) < x.len) : 0 ≤ x.off + (i : Int) ∧ x.off + (i : Int) < (N : Int) ∧ 0 ≤ x.phys + (i : Int) ∧ x.phys + (i : Int) ≤ 1099511627776 ∧ 0 ≤ x.birth ∧ x.birth ≤ 1099511627776 := by
  have := may_len h
  omega

/-! ### what the three are made of -/
/-- What View lays. -/
def unitG (units : List Nat) (x : Bl) (v : Nat) : Nat := if x.2.1 < (units.length : Int) then unitOf units x.2.1 else v
theorem laid_show {l : List Ext} {lo : Int} (h : listFrom lo l = true) (units : List Nat) : laid (unitG units) (fun _ => 0) (bkL l) = showF l units := by
  funext i
  rw [laid_bk _ h]
  unfold atG showF unitG
  cases atL l i with
  | none => rfl
  | some v =>
    show (if v.1 < _ then _ else _) = unitOf units v.1
    split
    · rfl
    · rename_i hv; unfold unitOf; rw [if_neg hv]
/-- What young lays. -/
theorem laid_young {a b : List Ext} {lo lo' : Int} (ha : listFrom lo a = true) (hb : listFrom lo' b = true) (gen : Int) (i : Nat) : laid (fun x _ => decide (gen < x.2.2)) (laid (fun _ _ => true) (fun _ => false) (bkL a)) (bkL b) (i : Int) = youngF a b gen i := by
  rw [laid_bk _ hb, laid_bk _ ha]
  unfold atG youngF
  cases hb2 : atL b (i : Int) with
  | none => cases atL a (i : Int) <;> rfl
  | some v => cases atL a (i : Int) <;> rfl
/-- What Grown asks of each block. -/
theorem grown_iff {a b : List Ext} {lo : Int} (hb : listFrom lo b = true) (hlo : 0 ≤ lo) (gen : Int) : grownL a b gen ↔ ∀ y ∈ bkL b, grewB gen (atL a y.1) (some y.2) = true := by
  constructor
  · intro h y hy
    have h1 := (mem_bk hb y).1 hy
    have h2 := at_out (listFrom_less hb hlo) (i := y.1)
    by_cases e : 0 ≤ y.1 ∧ y.1 < 1024
    · have := h y.1.toNat (by omega)
      rw [show ((y.1.toNat : Nat) : Int) = y.1 by omega, h1] at this
      exact this
    · rw [h2 e] at h1; cases h1
  · intro h i _
    cases hq : atL b (i : Int) with
    | none => cases atL a (i : Int) <;> rfl
    | some v => exact h ((i : Int), v) ((mem_bk hb _).2 hq)
end Go.Proofs.Ytfcfffilfmbpeaa
