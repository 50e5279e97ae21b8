/- Plain mathematics of check sums (Adler-32): nothing of the program is named here. -/
namespace Go.Proofs.Ytlmaelbalmjlbaa

/-- One byte more. -/
def adStep (s : Nat × Nat) (c : UInt8) : Nat × Nat := ((s.1 + c.toNat) % 65521, (s.2 + (s.1 + c.toNat) % 65521) % 65521)
def adl (s : Nat × Nat) (xs : List UInt8) : Nat × Nat := xs.foldl adStep s
def adStart (s : Nat) : Nat × Nat := (s % 65536 % 65521, s / 65536 % 65521)
def adMore (s : Nat) (xs : List UInt8) : Nat := (adl (adStart s) xs).2 * 65536 + (adl (adStart s) xs).1
def adOf (ps : List (List UInt8)) : Nat := ps.foldl adMore 1

theorem adl_snoc (s : Nat × Nat) (xs : List UInt8) (c : UInt8) : adl s (xs ++ [c]) = adStep (adl s xs) c := by
  simp [adl]
theorem adl_append (s : Nat × Nat) (xs ys : List UInt8) : adl s (xs ++ ys) = adl (adl s xs) ys := by
  simp [adl]
theorem adl_lt (s : Nat × Nat) (xs : List UInt8) (h : s.1 < 65521 ∧ s.2 < 65521) : (adl s xs).1 < 65521 ∧ (adl s xs).2 < 65521 := by
  induction xs generalizing s with
  | nil => exact h
  | cons c cs ih => exact ih _ ⟨Nat.mod_lt _ (by omega), Nat.mod_lt _ (by omega)⟩
theorem adStart_lt (s : Nat) : (adStart s).1 < 65521 ∧ (adStart s).2 < 65521 := ⟨Nat.mod_lt _ (by omega), Nat.mod_lt _ (by omega)⟩
theorem adMore_lt (s : Nat) (xs : List UInt8) : adMore s xs < 4294967296 := by
  have := adl_lt _ xs (adStart_lt s)
  unfold adMore; omega
theorem adStart_more (s : Nat) (xs : List UInt8) : adStart (adMore s xs) = adl (adStart s) xs := by
  have := adl_lt _ xs (adStart_lt s)
  unfold adMore adStart at *
  generalize adl _ xs = r at *
  obtain ⟨a, b⟩ := r
  simp only [Prod.mk.injEq]
  simp only at this
  omega
theorem adMore_append (s : Nat) (xs ys : List UInt8) : adMore (adMore s xs) ys = adMore s (xs ++ ys) := by
  have h : ∀ s xs, adMore s xs = (adl (adStart s) xs).2 * 65536 + (adl (adStart s) xs).1 := fun _ _ => rfl
  rw [h (adMore s xs), h s (xs ++ ys), adStart_more, adl_append]

/-- The two numbers with no remainder taken: the code's own stretch. -/
def rwStep (s : Nat × Nat) (c : UInt8) : Nat × Nat := (s.1 + c.toNat, s.2 + (s.1 + c.toNat))
def rwl (s : Nat × Nat) (xs : List UInt8) : Nat × Nat := xs.foldl rwStep s
theorem rwl_snoc (s : Nat × Nat) (xs : List UInt8) (c : UInt8) : rwl s (xs ++ [c]) = rwStep (rwl s xs) c := by
  simp [rwl]
/-- Remainders at the end are remainders all along. -/
theorem rwl_mod (s : Nat × Nat) (xs : List UInt8) (h : s.1 < 65521 ∧ s.2 < 65521) : adl s xs = ((rwl s xs).1 % 65521, (rwl s xs).2 % 65521) := by
  have key : ∀ (xs : List UInt8) (s t : Nat × Nat), s = (t.1 % 65521, t.2 % 65521) → adl s xs = ((rwl t xs).1 % 65521, (rwl t xs).2 % 65521) := by
    intro xs
    induction xs with
    | nil => intro s t h; exact h
    | cons c cs ih =>
      intro s t h
      refine ih (adStep s c) (rwStep t c) ?_
      subst h
      simp only [adStep, rwStep, Prod.mk.injEq]
      omega
  exact key xs s s (by rw [Nat.mod_eq_of_lt h.1, Nat.mod_eq_of_lt h.2])
/-- Within 5552 bytes no number passes 32 bits. -/
theorem rwl_small (s : Nat × Nat) (xs : List UInt8) (h : s.1 < 65521 ∧ s.2 < 65521) (hl : xs.length ≤ 5552) :
    (rwl s xs).1 < 4294967296 ∧ (rwl s xs).2 < 4294967296 := by
  have key : ∀ (n : Nat) (xs : List UInt8), xs.length = n → n ≤ 5552 → (rwl s xs).1 ≤ 65520 + 255 * n ∧ 2 * (rwl s xs).2 ≤ 131040 + 131040 * n + 255 * (n * (n + 1)) := by
    intro n
    induction n with
    | zero =>
      intro xs hx _
      have : xs = [] := List.eq_nil_of_length_eq_zero hx
      subst this
      simp only [rwl, List.foldl_nil]
      omega
    | succ n ih =>
      intro xs hx hn
      have hne : xs ≠ [] := by intro e; subst e; simp at hx
      rw [← List.dropLast_concat_getLast hne, rwl_snoc]
      have := ih xs.dropLast (by simp; omega) (by omega)
      have hc : (xs.getLast hne).toNat < 256 := UInt8.toNat_lt _
      generalize rwl s xs.dropLast = r at *
      simp only [rwStep]
      have e : (n + 1) * (n + 1 + 1) = n * (n + 1) + 2 * (n + 1) := by rw [Nat.add_mul, Nat.mul_add, Nat.mul_add]; omega
      rw [e]
      omega
  have := key xs.length xs rfl hl
  have h2 : xs.length * (xs.length + 1) ≤ 5552 * 5553 := Nat.mul_le_mul hl (by omega)
  omega

/-- A sum's bytes, the highest first. -/
def sumBytes (s : Nat) : List UInt8 := [UInt8.ofNat (s / 16777216), UInt8.ofNat (s / 65536), UInt8.ofNat (s / 256), UInt8.ofNat s]
/-- Does the sum behind fit? -/
def okSum (xs : List UInt8) : Bool := decide (4 ≤ xs.length) && (xs.drop (xs.length - 4) == sumBytes (adOf [xs.take (xs.length - 4)]))
def openL (xs : List UInt8) : List UInt8 := if okSum xs = true then xs.take (xs.length - 4) else []
def openE (xs : List UInt8) : Int := if okSum xs = true then 0 else 4
theorem okSum_small (xs : List UInt8) (h : xs.length < 4) : okSum xs = false := by
  unfold okSum
  rw [decide_eq_false (by omega), Bool.false_and]
theorem okSum_at (xs : List UInt8) (k : Nat) (h : k + 4 = xs.length) : okSum xs = (xs.drop k == sumBytes (adOf [xs.take k])) := by
  unfold okSum
  rw [decide_eq_true (by omega), Bool.true_and, show xs.length - 4 = k by omega]

theorem okSum_join (xs : List UInt8) (k : Nat) (h : k + 4 = xs.length) : okSum xs = (xs.take k ++ sumBytes (adOf [xs.take k]) == xs) := by
  rw [okSum_at xs k h, Bool.eq_iff_iff, beq_iff_eq, beq_iff_eq]
  constructor
  · intro e; rw [← e, List.take_append_drop]
  · intro e
    have e2 := congrArg (List.drop k) e
    rw [List.drop_append_of_le_length (by rw [List.length_take]; omega), List.drop_of_length_le (by rw [List.length_take]; omega), List.nil_append] at e2
    exact e2.symm
end Go.Proofs.Ytlmaelbalmjlbaa
