/- Plain mathematics of numbers' bytes and parts: nothing of the program is named here. -/
namespace Go.Proofs.Ytlmaelbalmjlbaa

/-- k bytes of a number, the lowest first. -/
def leBytes : Nat → Nat → List UInt8
  | 0, _ => []
  | k + 1, n => UInt8.ofNat n :: leBytes k (n / 256)
/-- The number of bytes, the lowest first. -/
def leNum : List UInt8 → Nat
  | [] => 0
  | c :: cs => c.toNat + 256 * leNum cs
def numBytes (n : Nat) : List UInt8 := leBytes 8 n
def numsBytes (l : List Nat) : List UInt8 := l.flatMap numBytes
def partBytes (p : List UInt8) : List UInt8 := numBytes p.length ++ p
def partsBytes (l : List (List UInt8)) : List UInt8 := l.flatMap partBytes
/-- The number that stands at the head. -/
def numAt (xs : List UInt8) : Nat := leNum (xs.take 8)

theorem leBytes_length (k n : Nat) : (leBytes k n).length = k := by
  induction k generalizing n with
  | zero => rfl
  | succ k ih => simp [leBytes, ih]
theorem numBytes_length (n : Nat) : (numBytes n).length = 8 := leBytes_length 8 n
theorem leBytes_get (k n j : Nat) (h : j < k) : (leBytes k n)[j]? = some (UInt8.ofNat (n / 256 ^ j)) := by
  induction k generalizing n j with
  | zero => omega
  | succ k ih =>
    cases j with
    | zero => simp [leBytes]
    | succ j =>
      simp only [leBytes, List.getElem?_cons_succ]
      rw [ih _ _ (by omega), Nat.div_div_eq_div_mul, Nat.pow_succ, Nat.mul_comm 256]
theorem numBytes_take (n k : Nat) (h : k < 8) : (numBytes n).take (k + 1) = (numBytes n).take k ++ [UInt8.ofNat (n / 256 ^ k)] := by
  have hk : k < (numBytes n).length := by rw [numBytes_length]; exact h
  have h2 : (numBytes n)[k]? = some (UInt8.ofNat (n / 256 ^ k)) := leBytes_get 8 n k h
  rw [List.take_add_one, h2]
  rfl
theorem leNum_lt (xs : List UInt8) : leNum xs < 256 ^ xs.length := by
  induction xs with
  | nil => simp [leNum]
  | cons c cs ih =>
    have := c.toNat_lt
    simp only [leNum, List.length_cons, Nat.pow_succ]
    omega
theorem leNum_snoc (xs : List UInt8) (c : UInt8) : leNum (xs ++ [c]) = leNum xs + c.toNat * 256 ^ xs.length := by
  induction xs with
  | nil => simp [leNum]
  | cons d ds ih =>
    simp only [List.cons_append, leNum, ih, List.length_cons, Nat.pow_succ, Nat.mul_add]
    rw [show c.toNat * (256 ^ ds.length * 256) = 256 * (c.toNat * 256 ^ ds.length) by rw [Nat.mul_comm (256 ^ ds.length), ← Nat.mul_assoc, Nat.mul_comm c.toNat, Nat.mul_assoc]]
    omega
theorem leNum_leBytes (k n : Nat) (h : n < 256 ^ k) : leNum (leBytes k n) = n := by
  induction k generalizing n with
  | zero => simp [leBytes, leNum] at *; omega
  | succ k ih =>
    rw [Nat.pow_succ] at h
    simp only [leBytes, leNum]
    rw [ih _ (by omega), UInt8.toNat_ofNat']
    omega
theorem leBytes_leNum (xs : List UInt8) : leBytes xs.length (leNum xs) = xs := by
  induction xs with
  | nil => rfl
  | cons c cs ih =>
    have := c.toNat_lt
    simp only [leNum, List.length_cons, leBytes]
    rw [show (c.toNat + 256 * leNum cs) / 256 = leNum cs by omega, ih]
    congr 1
    apply UInt8.toNat_inj.1
    rw [UInt8.toNat_ofNat']
    omega
theorem pow8 : 256 ^ 8 = 18446744073709551616 := by decide
theorem numAt_numBytes (n : Nat) (h : n < 18446744073709551616) (ys : List UInt8) : numAt (numBytes n ++ ys) = n := by
  unfold numAt
  rw [List.take_append_of_le_length (by rw [numBytes_length]; omega), List.take_of_length_le (by rw [numBytes_length]; omega)]
  exact leNum_leBytes 8 n (by rw [pow8]; exact h)
theorem numBytes_numAt (xs : List UInt8) (h : 8 ≤ xs.length) : numBytes (numAt xs) = xs.take 8 := by
  have h2 := leBytes_leNum (xs.take 8)
  rw [List.length_take, Nat.min_eq_left h] at h2
  exact h2
theorem numAt_lt (xs : List UInt8) : numAt xs < 18446744073709551616 := by
  have h := leNum_lt (xs.take 8)
  have h2 : 256 ^ (xs.take 8).length ≤ 256 ^ 8 := Nat.pow_le_pow_right (by omega) (by rw [List.length_take]; omega)
  unfold numAt
  rw [← pow8]
  omega
theorem numsBytes_snoc (l : List Nat) (n : Nat) : numsBytes (l ++ [n]) = numsBytes l ++ numBytes n := by simp [numsBytes]
theorem partsBytes_snoc (l : List (List UInt8)) (p : List UInt8) : partsBytes (l ++ [p]) = partsBytes l ++ partBytes p := by simp [partsBytes]
theorem numsBytes_length (l : List Nat) : (numsBytes l).length = 8 * l.length := by
  induction l with
  | nil => rfl
  | cons n l ih => simp only [numsBytes, List.flatMap_cons, List.length_append, numBytes_length, List.length_cons] at *; omega
theorem partBytes_length (p : List UInt8) : (partBytes p).length = 8 + p.length := by simp [partBytes, numBytes_length]
theorem partsBytes_cons (p : List UInt8) (l : List (List UInt8)) : partsBytes (p :: l) = partBytes p ++ partsBytes l := by simp [partsBytes]
theorem numsBytes_cons (n : Nat) (l : List Nat) : numsBytes (n :: l) = numBytes n ++ numsBytes l := by simp [numsBytes]
/-- What a first part is of bytes that have it. -/
theorem partBytes_numAt (xs : List UInt8) (n : Nat) (hn : n = numAt xs) (h : n + 8 ≤ xs.length) : partBytes ((xs.drop 8).take n) = xs.take (8 + n) := by
  unfold partBytes
  rw [List.length_take, List.length_drop, Nat.min_eq_left (by omega), hn, numBytes_numAt xs (by omega), ← hn, List.take_add]
theorem partsBytes_take_length (l : List (List UInt8)) (k : Nat) : (partsBytes (l.take k)).length ≤ (partsBytes l).length := by
  have h := congrArg List.length (congrArg partsBytes (List.take_append_drop k l))
  have h2 : partsBytes (l.take k ++ l.drop k) = partsBytes (l.take k) ++ partsBytes (l.drop k) := by unfold partsBytes; exact List.flatMap_append
  rw [h2, List.length_append] at h
  omega
theorem partsBytes_length (l : List (List UInt8)) : (partsBytes l).length = 8 * l.length + (l.map List.length).sum := by
  induction l with
  | nil => rfl
  | cons p l ih => rw [partsBytes_cons, List.length_append, partBytes_length, ih, List.length_cons, List.map_cons, List.sum_cons]; omega
end Go.Proofs.Ytlmaelbalmjlbaa
