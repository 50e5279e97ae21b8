/- Layer 10: what is read of a record's bytes, number by number: mathematics. -/
import Derived.Test.YtofoecpnphoohaaStrA
import Derived.Test.YtofoecpnphoohaaPackN
set_option linter.all false
namespace Go.Proofs.Ytofoecpnphoohaa
open Go.RowKit
namespace Str
/-- The place behind k numbers. -/
def st (y : List UInt8) : Nat → RS
  | 0 => ⟨0, 0, 0⟩
  | k + 1 => (rInt y 2147483648 (st y k)).2
def iv (y : List UInt8) (k : Nat) : Nat := (rInt y 2147483648 (st y k)).1
def cnt (y : List UInt8) : Nat := (rInt y 64 (st y 7)).1
def s8 (y : List UInt8) : RS := (rInt y 64 (st y 7)).2
def gst (y : List UInt8) : Nat → RS
  | 0 => s8 y
  | k + 1 => (rGet y (gst y k)).2
def gv (y : List UInt8) (k : Nat) : Nat := (rGet y (gst y k)).1
def gl (y : List UInt8) : Nat → List Nat
  | 0 => []
  | k + 1 => gl y k ++ [gv y k]
def dr (y : List UInt8) : Rec := ⟨iv y 0, iv y 1, iv y 2, iv y 3, iv y 4, iv y 5, iv y 6, gl y (cnt y)⟩
def okD (y : List UInt8) : Bool := decide ((rEnd y (gst y (cnt y))).e = 0) && mayB (dr y)
theorem gl_length (y : List UInt8) (k : Nat) : (gl y k).length = k := by
  induction k with
  | zero => rfl
  | succ k ih => simp [gl, ih]
theorem rInt_le (y : List UInt8) (m : Nat) (s : RS) : (rInt y (m : Int) s).1 ≤ m := by
  unfold rInt
  split
  · exact Nat.zero_le _
  · split
    · exact Nat.zero_le _
    · split
      · exact Nat.zero_le _
      · simp only; omega
theorem cnt_le (y : List UInt8) : cnt y ≤ 64 := rInt_le y 64 _
theorem iv_le (y : List UInt8) (k : Nat) : iv y k ≤ 2147483648 := rInt_le y 2147483648 _
theorem rGet_lt (y : List UInt8) (s : RS) : (rGet y s).1 < 18446744073709551616 := by
  unfold rGet
  split
  · simp
  · split
    · simp
    · exact numAt_lt _
theorem gv_lt (y : List UInt8) (k : Nat) : gv y k < 18446744073709551616 := rGet_lt _ _
theorem gl_lt (y : List UInt8) (k : Nat) : ∀ z ∈ gl y k, z < 18446744073709551616 := by
  induction k with
  | zero => simp [gl]
  | succ k ih =>
    intro z hz
    rw [gl, List.mem_append, List.mem_singleton] at hz
    rcases hz with hz | rfl
    · exact ih z hz
    · exact gv_lt y k
theorem rInt_bad {y : List UInt8} {m : Int} {s : RS} (h : s.e ≠ 0) : (rInt y m s).2.e ≠ 0 := by rw [rInt_fault y m s h]; exact h
theorem rGet_bad {y : List UInt8} {s : RS} (h : s.e ≠ 0) : (rGet y s).2.e ≠ 0 := by rw [rGet_fault y s h]; exact h
theorem rInt_good {y : List UInt8} {m : Int} {p : Nat} (h : p + 8 ≤ y.length) (hm : (numAt (y.drop p) : Int) ≤ m) : rInt y m ⟨p, 0, 0⟩ = (numAt (y.drop p), ⟨p + 8, 0, 0⟩) := by
  unfold rInt
  rw [if_neg (by simp), if_neg (by simp only; omega), if_neg (by simp only; omega)]
theorem rInt_short {y : List UInt8} {m : Int} {p : Nat} (h : y.length < p + 8) : (rInt y m ⟨p, 0, 0⟩).2.e ≠ 0 := by
  unfold rInt
  rw [if_neg (by simp), if_pos h]
  simp
theorem rInt_big {y : List UInt8} {m : Int} {p : Nat} (h : p + 8 ≤ y.length) (hm : m < (numAt (y.drop p) : Int)) : (rInt y m ⟨p, 0, 0⟩).2.e ≠ 0 := by
  unfold rInt
  rw [if_neg (by simp), if_neg (by simp only; omega), if_pos hm]
  simp
theorem st_cases (y : List UInt8) (k : Nat) : (st y k = ⟨8 * k, 0, 0⟩ ∧ 8 * k ≤ y.length ∧ ∀ j, j < k → iv y j = numAt (y.drop (8 * j)) ∧ numAt (y.drop (8 * j)) ≤ 2147483648) ∨ ((st y k).e ≠ 0 ∧ (y.length < 8 * k ∨ ∃ j, j < k ∧ 2147483648 < numAt (y.drop (8 * j)))) := by
  induction k with
  | zero => exact .inl ⟨rfl, Nat.zero_le _, fun j hj => by omega⟩
  | succ k ih =>
    rcases ih with ⟨h1, h2, h3⟩ | ⟨h1, h2⟩
    · by_cases hs : y.length < 8 * k + 8
      · exact .inr ⟨by rw [st, h1]; exact rInt_short hs, .inl (by omega)⟩
      · by_cases hb : 2147483648 < numAt (y.drop (8 * k))
        · exact .inr ⟨by rw [st, h1]; exact rInt_big (by omega) (by omega), .inr ⟨k, by omega, hb⟩⟩
        · have hg := rInt_good (y := y) (m := 2147483648) (p := 8 * k) (by omega) (by omega)
          refine .inl ⟨by rw [st, h1, hg]; rfl, by omega, fun j hj => ?_⟩
          by_cases hjk : j = k
          · subst hjk
            exact ⟨by rw [iv, h1, hg], by omega⟩
          · exact h3 j (by omega)
    · refine .inr ⟨by rw [st]; exact rInt_bad h1, ?_⟩
      rcases h2 with h2 | ⟨j, hj, h2⟩
      · exact .inl (by omega)
      · exact .inr ⟨j, by omega, h2⟩
theorem gst_bad {y : List UInt8} (h : (s8 y).e ≠ 0) (k : Nat) : (gst y k).e ≠ 0 := by
  induction k with
  | zero => exact h
  | succ k ih => rw [gst]; exact rGet_bad ih
theorem gst_cases {y : List UInt8} (h : s8 y = ⟨64, 0, 0⟩) (k : Nat) : (gst y k = ⟨64 + 8 * k, 0, 0⟩ ∧ (k = 0 ∨ 64 + 8 * k ≤ y.length) ∧ ∀ j, j < k → gv y j = numAt ((y.drop 64).drop (8 * j))) ∨ ((gst y k).e ≠ 0 ∧ y.length < 64 + 8 * k) := by
  induction k with
  | zero => exact .inl ⟨h, .inl rfl, fun j hj => by omega⟩
  | succ k ih =>
    rcases ih with ⟨h1, h2, h3⟩ | ⟨h1, h2⟩
    · by_cases hs : y.length < 64 + 8 * k + 8
      · refine .inr ⟨?_, by omega⟩
        rw [gst, h1]
        unfold rGet
        rw [if_neg (by simp), if_pos hs]
        simp
      · have hg : rGet y ⟨64 + 8 * k, 0, 0⟩ = (numAt (y.drop (64 + 8 * k)), ⟨64 + 8 * k + 8, 0, 0⟩) := by
          unfold rGet
          rw [if_neg (by simp), if_neg hs]
        refine .inl ⟨by rw [gst, h1, hg]; rfl, .inr (by omega), fun j hj => ?_⟩
        by_cases hjk : j = k
        · subst hjk
          rw [gv, h1, hg, List.drop_drop]
        · exact h3 j (by omega)
    · exact .inr ⟨by rw [gst]; exact rGet_bad h1, by omega⟩
theorem gl_at (y : List UInt8) : ∀ (k i : Nat), i < k → (gl y k)[i]? = some (gv y i)
  | k + 1, i, h => by
    rw [gl]
    by_cases hik : i = k
    · subst hik
      rw [List.getElem?_append_right (by rw [gl_length]; exact Nat.le_refl _), gl_length]
      simp
    · rw [List.getElem?_append_left (by rw [gl_length]; omega)]
      exact gl_at y k i (by omega)
theorem gl_read {y : List UInt8} {k : Nat} (h : ∀ j, j < k → gv y j = numAt ((y.drop 64).drop (8 * j))) : gl y k = readN k (y.drop 64) := by
  apply List.ext_getElem?
  intro i
  by_cases hi : i < k
  · rw [gl_at y k i hi, h i hi, List.getElem?_eq_getElem (by rw [readN_length]; exact hi), readN_at k i _ hi]
  · rw [List.getElem?_eq_none (by rw [gl_length]; omega), List.getElem?_eq_none (by rw [readN_length]; omega)]
theorem rEnd_bad {y : List UInt8} {s : RS} (h : s.e ≠ 0) : (rEnd y s).e ≠ 0 := by rw [rEnd_fault y s h]; exact h
theorem okD_bad {y : List UInt8} (h : (gst y (cnt y)).e ≠ 0) : okD y = false := by
  unfold okD
  rw [decide_eq_false (rEnd_bad h)]
  rfl
theorem form_far {y : List UInt8} (h : FormR y) (j : Nat) (hj : j < 7) : numAt (y.drop (8 * j)) ≤ 2147483648 := by
  obtain ⟨-, -, hk, h1, h2, h3, h4, h5, h6⟩ := h
  have hk := hk.kind
  unfold far recOf at *
  simp only at *
  match j, hj with
  | 0, _ => rw [Nat.mul_zero, List.drop_zero]; omega
  | 1, _ => show numAt (y.drop 8) ≤ 2147483648; omega
  | 2, _ => show numAt (y.drop 16) ≤ 2147483648; omega
  | 3, _ => show numAt (y.drop 24) ≤ 2147483648; omega
  | 4, _ => show numAt (y.drop 32) ≤ 2147483648; omega
  | 5, _ => show numAt (y.drop 40) ≤ 2147483648; omega
  | 6, _ => show numAt (y.drop 48) ≤ 2147483648; omega
/-- Which bytes are a record's, and which one. -/
theorem okD_is (y : List UInt8) : okD y = decide (FormR y) ∧ (okD y = true → dr y = recOf y) := by
  have bad : okD y = false → ¬ FormR y → okD y = decide (FormR y) ∧ (okD y = true → dr y = recOf y) := fun h1 h2 => by
    rw [h1, decide_eq_false h2]
    exact ⟨rfl, fun h => by cases h⟩
  rcases st_cases y 7 with ⟨h1, h2, h3⟩ | ⟨h1, h2⟩
  · have h1 : st y 7 = ⟨56, 0, 0⟩ := h1
    by_cases hs : y.length < 64
    · refine bad (okD_bad (gst_bad ?_ _)) (fun h => by have := h.1; omega)
      rw [s8, h1]
      exact rInt_short (by omega)
    · by_cases hb : 64 < numAt (y.drop 56)
      · refine bad (okD_bad (gst_bad ?_ _)) (fun h => ?_)
        · rw [s8, h1]
          exact rInt_big (by omega) (by omega)
        · have := h.2.2.1.data
          simp only [recOf, readN_length] at this
          omega
      · have hg := rInt_good (y := y) (m := 64) (p := 56) (by omega) (by omega)
        have hn : cnt y = numAt (y.drop 56) := by rw [cnt, h1, hg]
        have h8 : s8 y = ⟨64, 0, 0⟩ := by rw [s8, h1, hg]
        rcases gst_cases h8 (cnt y) with ⟨g1, g2, g3⟩ | ⟨g1, g2⟩
        · have hdr : dr y = recOf y := by
            unfold dr recOf
            rw [gl_read g3, ← hn]
            have e := fun j hj => (h3 j hj).1
            rw [e 0 (by omega), e 1 (by omega), e 2 (by omega), e 3 (by omega), e 4 (by omega), e 5 (by omega), e 6 (by omega)]
            simp
          refine ⟨?_, fun _ => hdr⟩
          unfold okD
          rw [g1, hdr]
          unfold rEnd
          rw [if_neg (by simp)]
          have hf : FormR y ↔ (y.length = 64 + 8 * numAt (y.drop 56) ∧ MayR (recOf y)) := ⟨fun h => h.2, fun h => ⟨by omega, h⟩⟩
          by_cases hp : 64 + 8 * cnt y < y.length
          · rw [if_pos hp, decide_eq_false (by simp), decide_eq_false (fun h => by have := (hf.1 h).1; omega)]
            rfl
          · rw [if_neg hp, decide_eq_true rfl, Bool.true_and]
            unfold mayB
            rw [decide_eq_decide, hf]
            exact ⟨fun h => ⟨by omega, h⟩, fun h => h.2⟩
        · exact bad (okD_bad g1) (fun h => by have := h.2.1; omega)
  · have h8 : (s8 y).e ≠ 0 := by rw [s8]; exact rInt_bad h1
    refine bad (okD_bad (gst_bad h8 _)) (fun h => ?_)
    rcases h2 with h2 | ⟨j, hj, h2⟩
    · have := h.1; omega
    · have := form_far h j hj; omega
end Str
end Go.Proofs.Ytofoecpnphoohaa
