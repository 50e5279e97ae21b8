/- Plain mathematics of check sums: a byte that was turned, and neighbours that were exchanged, are found. Nothing of the program is named here. -/
import Derived.Test.YtlmaelbalmjlbaaSumM
set_option linter.all false
namespace Go.Proofs.Ytlmaelbalmjlbaa

def total (xs : List UInt8) : Nat := xs.foldr (fun c n => c.toNat + n) 0
theorem adl_fst (s : Nat × Nat) (xs : List UInt8) : (adl s xs).1 % 65521 = (s.1 + total xs) % 65521 := by
  induction xs generalizing s with
  | nil => simp [adl, total]
  | cons c cs ih =>
    have := ih (adStep s c)
    have e : adl s (c :: cs) = adl (adStep s c) cs := rfl
    rw [e, this]
    simp only [adStep, total, List.foldr_cons]
    omega
theorem adOf_one (xs : List UInt8) : adOf [xs] = (adl (1, 0) xs).2 * 65536 + (adl (1, 0) xs).1 := rfl
theorem adOne_lt (xs : List UInt8) : (adl (1, 0) xs).1 < 65521 ∧ (adl (1, 0) xs).2 < 65521 := adl_lt _ xs ⟨by decide, by decide⟩
theorem adOf_split {xs ys : List UInt8} (h : adOf [xs] = adOf [ys]) : (adl (1, 0) xs) = (adl (1, 0) ys) := by
  rw [adOf_one, adOf_one] at h
  have h1 := adOne_lt xs
  have h2 := adOne_lt ys
  generalize adl (1, 0) xs = r at *
  generalize adl (1, 0) ys = q at *
  obtain ⟨a, b⟩ := r
  obtain ⟨c, d⟩ := q
  simp only at h h1 h2
  have : a = c := by omega
  have : b = d := by omega
  simp [*]
theorem sumBytes_inj {s t : Nat} (hs : s < 4294967296) (ht : t < 4294967296) (h : sumBytes s = sumBytes t) : s = t := by
  simp only [sumBytes, List.cons.injEq, and_true] at h
  obtain ⟨h1, h2, h3, h4⟩ := h
  have e1 := congrArg UInt8.toNat h1
  have e2 := congrArg UInt8.toNat h2
  have e3 := congrArg UInt8.toNat h3
  have e4 := congrArg UInt8.toNat h4
  simp only [UInt8.toNat_ofNat'] at e1 e2 e3 e4
  omega
theorem sumBytes_length (s : Nat) : (sumBytes s).length = 4 := rfl
theorem adOf1_lt (xs : List UInt8) : adOf [xs] < 4294967296 := adMore_lt 1 xs

theorem total_append (xs ys : List UInt8) : total (xs ++ ys) = total xs + total ys := by
  induction xs with
  | nil => simp [total]
  | cons c cs ih => simp only [List.cons_append, total, List.foldr_cons] at *; omega

/-- Equal sums of two byte strings that differ in one byte: that byte is the same. -/
theorem one_byte {p q : List UInt8} {x y : UInt8} (h : adOf [p ++ x :: q] = adOf [p ++ y :: q]) : x = y := by
  have e := adOf_split h
  have h1 := adl_fst (1, 0) (p ++ x :: q)
  have h2 := adl_fst (1, 0) (p ++ y :: q)
  rw [e] at h1
  rw [h1] at h2
  have tc : ∀ (c : UInt8) (cs : List UInt8), total (c :: cs) = c.toNat + total cs := fun _ _ => rfl
  rw [total_append, total_append, tc, tc] at h2
  simp only at h2
  have hx : x.toNat < 256 := x.toNat_lt
  have hy : y.toNat < 256 := y.toNat_lt
  exact UInt8.toNat_inj.1 (by omega)

theorem adl_shift (s t : Nat × Nat) (xs : List UInt8) (hf : s.1 = t.1) (h : adl s xs = adl t xs) : s.2 % 65521 = t.2 % 65521 := by
  induction xs generalizing s t with
  | nil =>
    simp only [adl, List.foldl_nil] at h
    rw [h]
  | cons c cs ih =>
    have := ih (adStep s c) (adStep t c) (by simp [adStep, hf]) h
    simp only [adStep, hf] at this
    omega
/-- Equal sums of two byte strings that differ by two neighbours' exchange: the neighbours are the same. -/
theorem two_bytes {p q : List UInt8} {x y : UInt8} (h : adOf [p ++ x :: y :: q] = adOf [p ++ y :: x :: q]) : x = y := by
  have e := adOf_split h
  rw [adl_append, adl_append] at e
  have e' : adl (adStep (adStep (adl (1, 0) p) x) y) q = adl (adStep (adStep (adl (1, 0) p) y) x) q := e
  generalize adl (1, 0) p = r at *
  have := adl_shift _ _ q (by simp only [adStep]; omega) e'
  simp only [adStep] at this
  have hx : x.toNat < 256 := x.toNat_lt
  have hy : y.toNat < 256 := y.toNat_lt
  exact UInt8.toNat_inj.1 (by omega)

theorem xor_self_iff (x y : UInt8) : x ^^^ y = x ↔ y = 0 := by
  constructor
  · intro h
    have : x ^^^ (x ^^^ y) = x ^^^ x := by rw [h]
    rw [← UInt8.xor_assoc, UInt8.xor_self, UInt8.zero_xor] at this
    exact this
  · intro h; subst h; simp

/-- The sealed bytes with byte 'at' set to y fit if, and only if, y is what was there. -/
theorem okSum_set (xs : List UInt8) (k : Nat) (y : UInt8) (hk : k < (xs ++ sumBytes (adOf [xs])).length) :
    okSum ((xs ++ sumBytes (adOf [xs])).set k y) = decide (y = (xs ++ sumBytes (adOf [xs]))[k]) := by
  have hl : (xs ++ sumBytes (adOf [xs])).length = xs.length + 4 := by simp [sumBytes]
  have hl2 : ((xs ++ sumBytes (adOf [xs])).set k y).length = xs.length + 4 := by rw [List.length_set, hl]
  rw [okSum_at _ xs.length hl2.symm, Bool.eq_iff_iff, beq_iff_eq, decide_eq_true_eq]
  by_cases h : k < xs.length
  · rw [List.set_append_left _ _ h]
    rw [List.drop_append_of_le_length (by simp), List.take_append_of_le_length (by simp)]
    rw [show (xs.set k y).drop xs.length = [] from List.drop_of_length_le (by simp), show (xs.set k y).take xs.length = xs.set k y from List.take_of_length_le (by simp), List.nil_append]
    rw [List.getElem_append_left h]
    constructor
    · intro e
      have e2 := sumBytes_inj (adOf1_lt _) (adOf1_lt _) e
      have hs : xs = xs.take k ++ xs[k] :: xs.drop (k + 1) := by rw [List.getElem_cons_drop, List.take_append_drop]
      have hs2 : xs.set k y = xs.take k ++ y :: xs.drop (k + 1) := by rw [List.set_eq_take_append_cons_drop, if_pos h]
      rw [hs2] at e2
      have e3 : adOf [xs.take k ++ xs[k] :: xs.drop (k + 1)] = adOf [xs.take k ++ y :: xs.drop (k + 1)] := by rw [← hs]; exact e2
      exact (one_byte e3).symm
    · intro e
      rw [e, List.set_getElem_self]
  · have h' : xs.length ≤ k := by omega
    rw [List.set_append_right _ _ h', List.drop_append_of_le_length (Nat.le_refl _), List.take_append_of_le_length (Nat.le_refl _), List.drop_length, List.take_length, List.nil_append, List.getElem_append_right h']
    constructor
    · intro e
      have := congrArg (fun l => l[k - xs.length]?) e
      simp only [List.getElem?_set_self (show k - xs.length < (sumBytes (adOf [xs])).length by rw [sumBytes_length]; omega)] at this
      rw [List.getElem?_eq_getElem (show k - xs.length < (sumBytes (adOf [xs])).length by rw [sumBytes_length]; omega)] at this
      exact Option.some.inj this
    · intro e
      rw [e, List.set_getElem_self]

/-- The sealed bytes with two neighbours among the bytes exchanged fit if, and only if, the two are the same. -/
theorem okSum_swap (xs : List UInt8) (k : Nat) (hk : k + 1 < xs.length) :
    okSum (((xs ++ sumBytes (adOf [xs])).set k xs[k+1]).set (k + 1) xs[k]) = decide (xs[k] = xs[k+1]) := by
  have hl2 : (((xs ++ sumBytes (adOf [xs])).set k xs[k+1]).set (k + 1) xs[k]).length = xs.length + 4 := by simp [sumBytes]
  rw [okSum_at _ xs.length hl2.symm, Bool.eq_iff_iff, beq_iff_eq, decide_eq_true_eq]
  rw [List.set_append_left _ _ (by omega), List.set_append_left _ _ (by simpa using hk)]
  rw [List.drop_append_of_le_length (by simp), List.take_append_of_le_length (by simp)]
  rw [List.drop_of_length_le (by simp), List.take_of_length_le (by simp), List.nil_append]
  have hs : xs = xs.take k ++ xs[k] :: xs[k+1] :: xs.drop (k + 2) := by
    rw [List.getElem_cons_drop, List.getElem_cons_drop, List.take_append_drop]
  have hs2 : (xs.set k xs[k+1]).set (k + 1) xs[k] = xs.take k ++ xs[k+1] :: xs[k] :: xs.drop (k + 2) := by
    apply List.ext_getElem?
    intro i
    simp only [List.getElem?_set, List.length_set]
    by_cases h1 : k + 1 = i
    · subst h1
      rw [if_pos rfl, if_pos hk, List.getElem?_append_right (by simp; omega)]
      simp [Nat.min_eq_left (show k ≤ xs.length by omega)]
    · rw [if_neg h1]
      by_cases h2 : k = i
      · subst h2
        rw [if_pos rfl, if_pos (by omega), List.getElem?_append_right (by simp; omega)]
        simp [Nat.min_eq_left (show k ≤ xs.length by omega)]
      · rw [if_neg h2]
        rcases Nat.lt_or_ge i k with h3 | h3
        · rw [List.getElem?_append_left (by simp; omega), List.getElem?_take, if_pos h3]
        · rw [List.getElem?_append_right (by simp; omega), List.length_take, Nat.min_eq_left (by omega)]
          obtain ⟨j, rfl⟩ : ∃ j, i = k + 2 + j := ⟨i - (k + 2), by omega⟩
          rw [show k + 2 + j - k = j + 1 + 1 by omega, List.getElem?_cons_succ, List.getElem?_cons_succ, List.getElem?_drop]
  constructor
  · intro e
    have e2 := sumBytes_inj (adOf1_lt _) (adOf1_lt _) e
    rw [hs2] at e2
    have e3 : adOf [xs.take k ++ xs[k] :: xs[k+1] :: xs.drop (k + 2)] = adOf [xs.take k ++ xs[k+1] :: xs[k] :: xs.drop (k + 2)] := by rw [← hs]; exact e2
    exact two_bytes e3
  · intro e
    rw [hs2, e]
    congr 2
    rw [List.cons.injEq]
    refine ⟨?_, rfl⟩
    conv => lhs; rw [hs]
    rw [e]

theorem tmod_bounds (z : Int) (n : Nat) (h : 0 < n) : -(n : Int) < z.tmod n ∧ z.tmod n < n := by
  have h1 := Int.tmod_lt_of_pos z (b := (n : Int)) (by omega)
  have h2 := Int.tmod_lt_of_pos (-z) (b := (n : Int)) (by omega)
  rw [Int.neg_tmod] at h2
  omega

end Go.Proofs.Ytlmaelbalmjlbaa
