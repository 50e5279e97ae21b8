/- Layer 15: reading a message's numbers one by one, with a Reader, tells the same as XNetM's form. Mathematics alone. -/
import Derived.Test.YtlmaelbalmjlbaaNetM
import Derived.Test.YtlmaelbalmjlbaaPackN
set_option linter.all false
namespace Go.Proofs.Ytlmaelbalmjlbaa.Net
open Str (far)

/-- The greatest number. -/
abbrev farI : Int := 2147483648
theorem int_yes {y : List UInt8} {p : Nat} {c : Int} (h : p + 8 ≤ y.length) (h2 : (numAt (y.drop p) : Int) ≤ c) : rInt y c ⟨p, 0, 0⟩ = (numAt (y.drop p), ⟨p + 8, 0, 0⟩) := by
  unfold rInt
  simp only [ne_eq, not_true_eq_false, if_false]
  rw [if_neg (by omega), if_neg (show ¬ c < _ by omega)]
theorem int_ok {y : List UInt8} {p f : Nat} {c : Int} (h : (rInt y c ⟨p, 0, f⟩).2.e = 0) : p + 8 ≤ y.length ∧ (numAt (y.drop p) : Int) ≤ c ∧ rInt y c ⟨p, 0, f⟩ = (numAt (y.drop p), ⟨p + 8, 0, 0⟩) := by
  unfold rInt at h ⊢
  simp only [ne_eq, not_true_eq_false, if_false] at h ⊢
  by_cases h1 : y.length < p + 8
  · rw [if_pos h1] at h; cases h
  · rw [if_neg h1] at h ⊢
    by_cases h2 : c < (numAt (y.drop p) : Int)
    · rw [if_pos h2] at h; cases h
    · rw [if_neg h2]; exact ⟨by omega, Int.not_lt.1 h2, rfl⟩
theorem int_went {y : List UInt8} {s : RS} {c : Int} (h : (rInt y c s).2.e = 0) : s.e = 0 := by
  by_cases he : s.e = 0
  · exact he
  · rw [rInt_fault _ _ _ he] at h; exact h
theorem part_went {y : List UInt8} {s : RS} (h : (rPart y s).2.e = 0) : s.e = 0 := by
  by_cases he : s.e = 0
  · exact he
  · rw [rPart_fault _ _ he] at h; exact h
theorem part_ok {y : List UInt8} {p f : Nat} (h : (rPart y ⟨p, 0, f⟩).2.e = 0) : p + 8 + numAt (y.drop p) ≤ y.length ∧ numAt (y.drop p) ≤ 2147483648 ∧ rPart y ⟨p, 0, f⟩ = ((y.drop (p + 8)).take (numAt (y.drop p)), ⟨p + 8 + numAt (y.drop p), 0, 0⟩) := by
  unfold rPart at h ⊢
  simp only [ne_eq, not_true_eq_false, if_false] at h ⊢
  by_cases h1 : y.length < p + 8
  · rw [if_pos h1] at h; cases h
  · rw [if_neg h1] at h ⊢
    by_cases h2 : 2147483648 < numAt (y.drop p)
    · rw [if_pos h2] at h; cases h
    · rw [if_neg h2] at h ⊢
      by_cases h3 : y.length < p + 8 + numAt (y.drop p)
      · rw [if_pos h3] at h; cases h
      · rw [if_neg h3]; exact ⟨by omega, by omega, rfl⟩
theorem part_yes {y : List UInt8} {p : Nat} (h : p + 8 + numAt (y.drop p) ≤ y.length) (h2 : numAt (y.drop p) ≤ 2147483648) : rPart y ⟨p, 0, 0⟩ = ((y.drop (p + 8)).take (numAt (y.drop p)), ⟨p + 8 + numAt (y.drop p), 0, 0⟩) := by
  unfold rPart
  simp only [ne_eq, not_true_eq_false, if_false]
  rw [if_neg (by omega), if_neg (by omega), if_neg (by omega)]
theorem end_ok {y : List UInt8} {s : RS} (h : (rEnd y s).e = 0) : s.e = 0 ∧ y.length ≤ s.p := by
  unfold rEnd at h
  by_cases he : s.e ≠ 0
  · rw [if_pos he] at h; exact absurd h he
  · rw [if_neg he] at h
    by_cases h2 : s.p < y.length
    · rw [if_pos h2] at h; cases h
    · exact ⟨by simpa using he, by omega⟩
/-- The Reader's states behind each number, behind the part. -/
def st1 (c : Int) (y : List UInt8) : Nat × RS := rInt y c ⟨0, 0, 0⟩
def st2 (c : Int) (y : List UInt8) : Nat × RS := rInt y c (st1 c y).2
def st3 (c : Int) (y : List UInt8) : Nat × RS := rInt y farI (st2 c y).2
def st4 (c : Int) (y : List UInt8) : Nat × RS := rInt y farI (st3 c y).2
def st5 (c : Int) (y : List UInt8) : Nat × RS := rInt y farI (st4 c y).2
def st6 (c : Int) (y : List UInt8) : Nat × RS := rInt y farI (st5 c y).2
def st7 (c : Int) (y : List UInt8) : List UInt8 × RS := rPart y (st6 c y).2
/-- What was read, whatever came. -/
def runM (c : Int) (y : List UInt8) : Ms := ⟨(st1 c y).1, (st2 c y).1, (st3 c y).1, (st4 c y).1, (st5 c y).1, (st6 c y).1, (st7 c y).1⟩
theorem run_form {c : Int} (hc : 15 ≤ c) {y : List UInt8} (h : FormM y) : (rEnd y (st7 c y).2).e = 0 ∧ runM c y = msgOf y := by
  obtain ⟨h56, hl, hm⟩ := h
  obtain ⟨⟨_, k3⟩, ⟨_, k4⟩, ⟨_, k5⟩, ⟨_, k6⟩, ⟨_, k1⟩, ⟨_, k2⟩, k7⟩ := hm
  simp only [msgOf] at k1 k2 k3 k4 k5 k6 k7
  have hd : ((y.drop 56).take (numAt (y.drop 48))).length = numAt (y.drop 48) := by rw [List.length_take, List.length_drop]; omega
  rw [hd] at k7
  have e1 : st1 c y = (numAt y, ⟨8, 0, 0⟩) := int_yes (p := 0) (by omega) (by rw [List.drop_zero]; omega)
  have e2 : st2 c y = (numAt (y.drop 8), ⟨16, 0, 0⟩) := by unfold st2; rw [e1]; exact int_yes (p := 8) (by omega) (by omega)
  have e3 : st3 c y = (numAt (y.drop 16), ⟨24, 0, 0⟩) := by unfold st3; rw [e2]; exact int_yes (p := 16) (by omega) (by omega)
  have e4 : st4 c y = (numAt (y.drop 24), ⟨32, 0, 0⟩) := by unfold st4; rw [e3]; exact int_yes (p := 24) (by omega) (by omega)
  have e5 : st5 c y = (numAt (y.drop 32), ⟨40, 0, 0⟩) := by unfold st5; rw [e4]; exact int_yes (p := 32) (by omega) (by omega)
  have e6 : st6 c y = (numAt (y.drop 40), ⟨48, 0, 0⟩) := by unfold st6; rw [e5]; exact int_yes (p := 40) (by omega) (by omega)
  have e7 : st7 c y = ((y.drop 56).take (numAt (y.drop 48)), ⟨56 + numAt (y.drop 48), 0, 0⟩) := by unfold st7; rw [e6]; exact part_yes (p := 48) (by omega) (by omega)
  refine ⟨?_, ?_⟩
  · rw [e7]
    unfold rEnd
    simp only [ne_eq, not_true_eq_false, if_false]
    rw [if_neg (by omega)]
  · unfold runM msgOf
    rw [e1, e2, e3, e4, e5, e6, e7]
theorem form_run {c : Int} {y : List UInt8} (h : (rEnd y (st7 c y).2).e = 0) (hm : MayM (runM c y)) : FormM y := by
  obtain ⟨h7, hend⟩ := end_ok h
  have h6 : (st6 c y).2.e = 0 := part_went h7
  have h5 : (st5 c y).2.e = 0 := int_went h6
  have h4 : (st4 c y).2.e = 0 := int_went h5
  have h3 : (st3 c y).2.e = 0 := int_went h4
  have h2 : (st2 c y).2.e = 0 := int_went h3
  have h1 : (st1 c y).2.e = 0 := int_went h2
  obtain ⟨_, _, e1⟩ := int_ok (p := 0) (f := 0) h1
  have e1 : st1 c y = (numAt (y.drop 0), ⟨8, 0, 0⟩) := e1
  unfold st2 at h2
  rw [e1] at h2
  obtain ⟨_, _, e2⟩ := int_ok h2
  have e2 : st2 c y = (numAt (y.drop 8), ⟨16, 0, 0⟩) := by unfold st2; rw [e1]; exact e2
  unfold st3 at h3
  rw [e2] at h3
  obtain ⟨_, _, e3⟩ := int_ok h3
  have e3 : st3 c y = (numAt (y.drop 16), ⟨24, 0, 0⟩) := by unfold st3; rw [e2]; exact e3
  unfold st4 at h4
  rw [e3] at h4
  obtain ⟨_, _, e4⟩ := int_ok h4
  have e4 : st4 c y = (numAt (y.drop 24), ⟨32, 0, 0⟩) := by unfold st4; rw [e3]; exact e4
  unfold st5 at h5
  rw [e4] at h5
  obtain ⟨_, _, e5⟩ := int_ok h5
  have e5 : st5 c y = (numAt (y.drop 32), ⟨40, 0, 0⟩) := by unfold st5; rw [e4]; exact e5
  unfold st6 at h6
  rw [e5] at h6
  obtain ⟨_, _, e6⟩ := int_ok h6
  have e6 : st6 c y = (numAt (y.drop 40), ⟨48, 0, 0⟩) := by unfold st6; rw [e5]; exact e6
  unfold st7 at h7
  rw [e6] at h7
  obtain ⟨g1, g2, e7⟩ := part_ok h7
  have e7 : st7 c y = ((y.drop 56).take (numAt (y.drop 48)), ⟨56 + numAt (y.drop 48), 0, 0⟩) := by unfold st7; rw [e6]; exact e7
  have hr : runM c y = msgOf y := by
    unfold runM msgOf
    rw [e1, e2, e3, e4, e5, e6, e7, List.drop_zero]
  rw [e7] at hend
  exact ⟨by omega, by simp only at hend; omega, by rw [← hr]; exact hm⟩
/-- The document's answer for sealed bytes. -/
theorem run_is {c : Int} (hc : 15 ≤ c) (y : List UInt8) : (decide ((rEnd y (st7 c y).2).e = 0) && decide (MayM (runM c y))) = decide (FormM y) := by
  by_cases h : FormM y
  · obtain ⟨h1, h2⟩ := run_form hc h
    rw [h1, h2, decide_eq_true h, decide_eq_true h.2.2]
    rfl
  · rw [decide_eq_false h]
    cases e : decide ((rEnd y (st7 c y).2).e = 0) with
    | false => rfl
    | true =>
      rw [Bool.true_and, decide_eq_false_iff_not]
      exact fun hm => h (form_run (of_decide_eq_true e) hm)
end Go.Proofs.Ytlmaelbalmjlbaa.Net
