/- What a Reader gets of what a Writer has put: plain mathematics of the Reader's steps. -/
import Derived.Test.YtlmaelbalmjlbaaPackS
set_option linter.all false
namespace Go.Proofs.Ytlmaelbalmjlbaa

theorem nums_drop (a : List Nat) (ys : List UInt8) (k : Nat) (hk : k < a.length) : (numsBytes a ++ ys).drop (8 * k) = numBytes a[k] ++ (numsBytes (a.drop (k + 1)) ++ ys) := by
  induction a generalizing k with
  | nil => simp at hk
  | cons n a ih =>
    cases k with
    | zero => simp [numsBytes_cons]
    | succ k =>
      have hk' : k < a.length := by simpa using hk
      rw [numsBytes_cons, List.append_assoc, show 8 * (k + 1) = (numBytes n).length + 8 * k by rw [numBytes_length]; omega, ← List.drop_drop, List.drop_left, ih k hk']
      simp
theorem parts_drop (l : List (List UInt8)) (k : Nat) (hk : k < l.length) : (partsBytes l).drop (partsBytes (l.take k)).length = partBytes l[k] ++ partsBytes (l.drop (k + 1)) := by
  induction l generalizing k with
  | nil => simp at hk
  | cons p l ih =>
    cases k with
    | zero => simp [partsBytes_cons, partsBytes]
    | succ k =>
      have hk' : k < l.length := by simpa using hk
      rw [List.take_succ_cons, partsBytes_cons, partsBytes_cons, List.length_append, ← List.drop_drop, List.drop_left, ih k hk']
      simp
theorem rGet_nums (a : List Nat) (ys : List UInt8) (k : Nat) (hk : k < a.length) (hz : a[k] < 18446744073709551616) : rGet (numsBytes a ++ ys) ⟨8 * k, 0, 0⟩ = (a[k], ⟨8 * (k + 1), 0, 0⟩) := by
  have h1 := nums_drop a ys k hk
  have h2 := congrArg List.length h1
  rw [List.length_drop, List.length_append, List.length_append, numBytes_length] at h2
  have h3 : ¬ (numsBytes a ++ ys).length < 8 * k + 8 := by rw [List.length_append]; omega
  unfold rGet
  simp only [ne_eq, not_true_eq_false, if_false, h3, h1]
  rw [numAt_numBytes _ hz, show 8 * (k + 1) = 8 * k + 8 by omega]
theorem rPart_parts (zs : List UInt8) (l : List (List UInt8)) (k : Nat) (hk : k < l.length) (hz : l[k].length ≤ 2147483648) :
    rPart (zs ++ partsBytes l) ⟨zs.length + (partsBytes (l.take k)).length, 0, 0⟩ = (l[k], ⟨zs.length + (partsBytes (l.take (k + 1))).length, 0, 0⟩) := by
  have h0 : (zs ++ partsBytes l).drop (zs.length + (partsBytes (l.take k)).length) = partBytes l[k] ++ partsBytes (l.drop (k + 1)) := by
    rw [← List.drop_drop, List.drop_left, parts_drop l k hk]
  have h2 := congrArg List.length h0
  have h2' : (partBytes l[k] ++ partsBytes (l.drop (k + 1))).length = 8 + l[k].length + (partsBytes (l.drop (k + 1))).length := by rw [List.length_append, partBytes_length]
  rw [List.length_drop, h2'] at h2
  have hn : numAt ((zs ++ partsBytes l).drop (zs.length + (partsBytes (l.take k)).length)) = l[k].length := by
    rw [h0, partBytes, List.append_assoc, numAt_numBytes _ (by omega)]
  have hd : (zs ++ partsBytes l).drop (zs.length + (partsBytes (l.take k)).length + 8) = l[k] ++ partsBytes (l.drop (k + 1)) := by
    rw [← List.drop_drop, h0, partBytes, List.append_assoc, show 8 = (numBytes l[k].length).length by rw [numBytes_length], List.drop_left]
  have hs : (partsBytes (l.take (k + 1))).length = (partsBytes (l.take k)).length + (8 + l[k].length) := by
    rw [List.take_succ_eq_append_getElem hk, partsBytes_snoc, List.length_append, partBytes_length]
  unfold rPart
  simp only [ne_eq, not_true_eq_false, if_false, hn]
  rw [if_neg (by omega), if_neg (by omega), if_neg (by omega), hd, List.take_left]
  refine Prod.ext rfl ?_
  show RS.mk _ 0 0 = RS.mk _ 0 0
  rw [hs]
  congr 1
  omega
/-- A step never leaves the bytes, and the place never falls back; behind a fault nothing is got. -/
theorem rGet_fault (xs : List UInt8) (s : RS) (h : s.e ≠ 0) : rGet xs s = (0, s) := by simp [rGet, h]
theorem rInt_fault (xs : List UInt8) (m : Int) (s : RS) (h : s.e ≠ 0) : rInt xs m s = (0, s) := by simp [rInt, h]
theorem rPart_fault (xs : List UInt8) (s : RS) (h : s.e ≠ 0) : rPart xs s = ([], s) := by simp [rPart, h]
theorem rEnd_fault (xs : List UInt8) (s : RS) (h : s.e ≠ 0) : rEnd xs s = s := by simp [rEnd, h]
theorem rGet_place (xs : List UInt8) (s : RS) (h : s.p ≤ xs.length) : s.p ≤ (rGet xs s).2.p ∧ (rGet xs s).2.p ≤ xs.length := by
  unfold rGet
  split
  · exact ⟨Nat.le_refl _, h⟩
  · split
    · exact ⟨Nat.le_refl _, h⟩
    · simp only; omega
theorem rInt_place (xs : List UInt8) (m : Int) (s : RS) (h : s.p ≤ xs.length) : s.p ≤ (rInt xs m s).2.p ∧ (rInt xs m s).2.p ≤ xs.length := by
  unfold rInt
  split
  · exact ⟨Nat.le_refl _, h⟩
  · split
    · exact ⟨Nat.le_refl _, h⟩
    · split
      · exact ⟨Nat.le_refl _, h⟩
      · simp only; omega
theorem rPart_place (xs : List UInt8) (s : RS) (h : s.p ≤ xs.length) : s.p ≤ (rPart xs s).2.p ∧ (rPart xs s).2.p ≤ xs.length := by
  unfold rPart
  split
  · exact ⟨Nat.le_refl _, h⟩
  · split
    · exact ⟨Nat.le_refl _, h⟩
    · split
      · exact ⟨Nat.le_refl _, h⟩
      · split
        · exact ⟨Nat.le_refl _, h⟩
        · simp only; omega
theorem rEnd_place (xs : List UInt8) (s : RS) (h : s.p ≤ xs.length) : s.p ≤ (rEnd xs s).p ∧ (rEnd xs s).p ≤ xs.length := by
  unfold rEnd
  split
  · exact ⟨Nat.le_refl _, h⟩
  · split
    · exact ⟨Nat.le_refl _, h⟩
    · exact ⟨Nat.le_refl _, h⟩
/-- A part that is read is the bytes that are put for it. -/
theorem rPart_one (xs : List UInt8) (s : RS) (h : s.e = 0) (h2 : (rPart xs s).2.e = 0) : xs.take (rPart xs s).2.p = xs.take s.p ++ partBytes (rPart xs s).1 ∧ s.p + 8 ≤ (rPart xs s).2.p := by
  unfold rPart at *
  simp only [h, ne_eq, not_true_eq_false, if_false] at h2 ⊢
  split at h2
  · simp at h2
  · rename_i g1
    rw [if_neg g1]
    split at h2
    · simp at h2
    · rename_i g2
      rw [if_neg g2]
      split at h2
      · simp at h2
      · rename_i g3
        rw [if_neg g3]
        simp only
        refine ⟨?_, by omega⟩
        have := partBytes_numAt (xs.drop s.p) (numAt (xs.drop s.p)) rfl (by rw [List.length_drop]; omega)
        rw [List.drop_drop] at this
        rw [this, Nat.add_assoc, List.take_add]
theorem len_le_sum (l : List (List UInt8)) (p : List UInt8) (h : p ∈ l) : p.length ≤ (l.map List.length).sum := by
  induction l with
  | nil => cases h
  | cons q l ih =>
    rw [List.map_cons, List.sum_cons]
    rcases List.mem_cons.1 h with rfl | h
    · omega
    · have := ih h; omega
end Go.Proofs.Ytlmaelbalmjlbaa
