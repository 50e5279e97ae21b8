/- Layer 17: more of the mathematics of a coordinator: who is open, how many have run. Nothing of the program is named here. -/
import Derived.Test.YtpjbeodnalgkfaaBarO
set_option linter.all false
namespace Go.Proofs.Ytpjbeodnalgkfaa
namespace Bar
def opL (c : Co) : List Nat := (List.range c.ans.length).filter fun i => !(c.ans.getD i true)
def openI (c : Co) : List Int := if 0 < c.ph then (opL c).map fun (i : Nat) => (i : Int) else []
def toN (n : Nat) : List Int := (List.range n).map fun (i : Nat) => (i : Int)
theorem toN_succ (n : Nat) : toN (n + 1) = toN n ++ [(n : Int)] := by simp [toN, List.range_succ]
theorem toN_len (n : Nat) : (toN n).length = n := by simp [toN]
theorem step_open (c : Co) : stepL c = (openI c).map fun z => (⟨z, c.ph, c.id⟩ : Odr) := by
  unfold stepL openI
  split
  · rw [List.map_map]; rfl
  · rfl
theorem opL_turn (c : Co) (p : Int) : opL (turnC c p) = List.range c.ans.length := by
  unfold opL turnC
  simp only [List.length_replicate]
  rw [List.filter_eq_self]
  intro i hi
  have hi := List.mem_range.1 hi
  rw [List.getD, List.getElem?_replicate, if_pos hi]
  rfl
theorem openI_turn (c : Co) {p : Int} (hp : 0 < p) : openI (turnC c p) = toN c.ans.length := by
  unfold openI toN
  rw [if_pos (show 0 < (turnC c p).ph from hp), opL_turn]
theorem openI_zero {c : Co} (h : c.ph = 0) : openI c = [] := by
  unfold openI
  rw [if_neg (by omega)]
theorem openI_len (c : Co) : (openI c).length ≤ c.ans.length := by
  unfold openI
  split
  · rw [List.length_map]
    unfold opL
    refine Nat.le_trans (List.length_filter_le _ _) ?_
    simp
  · simp
theorem openI_set {c : Co} {i : Nat} (hi : i < c.ans.length) : openI (setC c (i : Int)) = (openI c).filter fun z => !(z == (i : Int)) := by
  unfold openI
  have e : (setC c (i : Int)).ph = c.ph := rfl
  rw [e]
  split
  · have h1 : opL (setC c (i : Int)) = (opL c).filter fun j => !(j == i) := by
      unfold opL setC
      simp only [List.length_set, Int.toNat_natCast]
      rw [List.filter_filter]
      refine List.filter_congr fun j hj => ?_
      have hj := List.mem_range.1 hj
      by_cases e : j = i
      · subst e
        rw [List.getD, List.getElem?_set_self hi]
        simp
      · rw [List.getD, List.getElem?_set_ne (fun q => e q.symm), ← List.getD]
        have : (j == i) = false := by simpa using e
        rw [this]
        simp
    rw [h1, List.filter_map]
    congr 1
    refine List.filter_congr fun j hj => ?_
    simp only [Function.comp]
    congr 1
    by_cases e : j = i
    · subst e; simp
    · have h1 : (j == i) = false := by simpa using e
      have h2 : ((j : Int) == (i : Int)) = false := by simp; omega
      rw [h1, h2]
  · rfl
theorem open_nil {c : Co} (h : 0 < c.ph) : openI c = [] ↔ c.ans.all (fun b => b) = true := by
  unfold openI opL
  rw [if_pos h, List.map_eq_nil_iff, List.filter_eq_nil_iff, List.all_eq_true]
  constructor
  · intro hq b hb
    obtain ⟨i, hi, e⟩ := List.mem_iff_getElem.1 hb
    have := hq i (List.mem_range.2 hi)
    rw [List.getD, List.getElem?_eq_getElem hi] at this
    simp only [Option.getD_some] at this
    rw [e] at this
    cases b
    · exact absurd rfl this
    · rfl
  · intro hq i hi
    have hi := List.mem_range.1 hi
    rw [List.getD, List.getElem?_eq_getElem hi]
    simp only [Option.getD_some]
    have := hq _ (List.getElem_mem hi)
    rw [this]
    decide
theorem openI_mem {c : Co} {z : Int} (h : z ∈ openI c) : ∃ i : Nat, z = (i : Int) ∧ i < c.ans.length := by
  unfold openI at h
  split at h
  · obtain ⟨i, hi, rfl⟩ := List.mem_map.1 h
    exact ⟨i, rfl, List.mem_range.1 (List.mem_filter.1 hi).1⟩
  · cases h
/-! ### what each has come to -/
def endF (c : Co) (x : Int) : Option Int := if x ∈ c.cm then some 2 else if x ∈ c.ab then some 3 else none
theorem endF_turn (c : Co) (p : Int) : endF (turnC c p) = endF c := rfl
theorem endF_set (c : Co) (a : Int) : endF (setC c a) = endF c := rfl
theorem endF_none {c : Co} (h : CoOk c) (h0 : 0 < c.ph) : endF c c.id = none := by
  have := h.new h0
  unfold endF
  rw [if_neg this.1, if_neg this.2]
theorem endF_ends {c : Co} (h : CoOk c) (h0 : 0 < c.ph) (j : Int) : endF (endsC c) j = if j = c.id then some (if c.ph = 3 then 2 else 3) else endF c j := by
  have hn := h.new h0
  have hm : (endsC c).cm = if c.ph = 3 then c.cm ++ [c.id] else c.cm := by unfold endsC; split <;> rfl
  have ha : (endsC c).ab = if c.ph = 3 then c.ab else c.ab ++ [c.id] := by unfold endsC; split <;> rfl
  by_cases h3 : c.ph = 3
  · rw [if_pos h3] at hm ha ⊢
    by_cases e : j = c.id
    · rw [if_pos e]
      unfold endF
      rw [if_pos (by rw [hm, e]; simp)]
    · rw [if_neg e]
      unfold endF
      by_cases q : j ∈ c.cm
      · rw [if_pos q, if_pos (by rw [hm]; simp [q])]
      · rw [if_neg q, if_neg (by rw [hm]; simp [q, e])]
        by_cases q2 : j ∈ c.ab
        · rw [if_pos q2, if_pos (by rw [ha]; exact q2)]
        · rw [if_neg q2, if_neg (by rw [ha]; exact q2)]
  · rw [if_neg h3] at hm ha ⊢
    by_cases e : j = c.id
    · rw [if_pos e]
      unfold endF
      rw [if_neg (by rw [hm, e]; exact hn.1), if_pos (by rw [ha, e]; simp)]
    · rw [if_neg e]
      unfold endF
      by_cases q : j ∈ c.cm
      · rw [if_pos q, if_pos (by rw [hm]; exact q)]
      · rw [if_neg q, if_neg (by rw [hm]; exact q)]
        by_cases q2 : j ∈ c.ab
        · rw [if_pos q2, if_pos (by rw [ha]; simp [q2])]
        · rw [if_neg q2, if_neg (by rw [ha]; simp [q2, e])]
theorem ends_count (c : Co) : (endsC c).cm.length + (endsC c).ab.length = c.cm.length + c.ab.length + 1 := by
  unfold endsC
  split <;> simp [turnC] <;> omega
theorem ends_ph (c : Co) : (endsC c).ph = 0 ∧ (endsC c).id = 0 ∧ (endsC c).ans.length = c.ans.length := by
  unfold endsC
  split <;> simp [turnC]
theorem stC_idle {c : Co} (h : c.ph = 0) (x : Int) : stC c x = (endF c x).getD 0 := by
  unfold stC endF
  by_cases h1 : x ∈ c.cm
  · rw [if_pos (.inl h1), if_pos h1]; rfl
  · rw [if_neg (fun q => q.elim h1 (fun q => by omega)), if_neg h1]
    by_cases h2 : x ∈ c.ab
    · rw [if_pos (.inl h2), if_pos h2]; rfl
    · rw [if_neg (fun q => q.elim h2 (fun q => by omega)), if_neg h2, if_neg (by omega)]; rfl
theorem stC_other {c : Co} {x : Int} (h : x ≠ c.id) : stC c x = (endF c x).getD 0 := by
  unfold stC endF
  by_cases h1 : x ∈ c.cm
  · rw [if_pos (.inl h1), if_pos h1]; rfl
  · rw [if_neg (fun q => q.elim h1 (fun q => h q.2)), if_neg h1]
    by_cases h2 : x ∈ c.ab
    · rw [if_pos (.inl h2), if_pos h2]; rfl
    · rw [if_neg (fun q => q.elim h2 (fun q => h q.2)), if_neg h2, if_neg (fun q => h q.2)]; rfl
def outC (c : Co) : Int := if c.ph = 3 then 2 else if c.ph = 4 then 3 else 1
theorem stC_run {c : Co} (h : CoOk c) (h0 : 0 < c.ph) : stC c c.id = outC c := by
  have hn := h.new h0
  unfold stC outC
  by_cases h3 : c.ph = 3
  · rw [if_pos (.inr ⟨h3, rfl⟩), if_pos h3]
  · rw [if_neg (fun q => q.elim hn.1 (fun q => h3 q.1)), if_neg h3]
    by_cases h4 : c.ph = 4
    · rw [if_pos (.inr ⟨h4, rfl⟩), if_pos h4]
    · rw [if_neg (fun q => q.elim hn.2 (fun q => h4 q.1)), if_neg h4, if_pos ⟨h0, rfl⟩]
/-! ### how many have run -/
def busy (p : Int) : Nat := if p = 0 then 0 else 1
theorem busy_le (p : Int) : busy p ≤ 1 := by unfold busy; split <;> omega
theorem busy_yes {p : Int} (h : p ≠ 0) : busy p = 1 := by unfold busy; rw [if_neg h]
def Few (c : Co) : Prop := c.cm.length + c.ab.length + busy c.ph ≤ 1024 ∧ c.ans.length ≤ 16
theorem few0 {n : Nat} (h : n ≤ 16) : Few (co0 n) := ⟨by simp [co0, busy], by simp [co0]; exact h⟩
theorem few_turn {c : Co} (h : Few c) {p : Int} (h0 : c.ph ≠ 0) : Few (turnC c p) := by
  unfold Few at *
  rw [busy_yes h0] at h
  have := busy_le p
  simp only [turnC, List.length_replicate]
  exact ⟨by omega, h.2⟩
theorem few_hear {c : Co} (h : Few c) (a k x : Int) : Few (hearS c a k x) := by
  unfold hearS
  split
  · exact h
  · rename_i he
    have h0 : c.ph ≠ 0 := by
      intro q
      apply he
      unfold hearE
      split
      · decide
      · rw [if_pos (.inl q)]; decide
    split
    · exact few_turn h h0
    · split
      · exact h
      · split
        · rw [go_set]
          unfold goOn
          split
          · exact few_turn h h0
          · unfold Few at *
            rw [busy_yes h0] at h
            obtain ⟨q1, q2, q3⟩ := ends_ph c
            rw [ends_count, q1, q3]
            exact ⟨by simp only [busy, if_true]; omega, h.2⟩
        · unfold Few at *
          simp only [setC, List.length_set]
          exact h
theorem few_beg {c : Co} (h : Few c) (x : Int) : Few (begS c x) := by
  unfold begS
  split
  · rename_i he
    unfold begE at he
    split at he
    · cases he
    · split at he
      · cases he
      · split at he
        · cases he
        · split at he
          · cases he
          · unfold Few at *
            simp only [turnC, List.length_replicate]
            exact ⟨by have := busy_le 1; omega, h.2⟩
  · exact h
theorem abE_not {c : Co} : abE c = 0 ↔ (c.ph = 1 ∨ c.ph = 2) := by
  unfold abE
  split
  · rename_i h; exact ⟨fun _ => h, fun _ => rfl⟩
  · rename_i h; exact ⟨fun q => (by cases q), fun q => absurd q h⟩
theorem few_ab {c : Co} (h : Few c) : Few (abS c) := by
  unfold abS
  split
  · rename_i he
    have := abE_not.1 he
    exact few_turn h (by omega)
  · exact h
theorem few_cr {c : Co} (h : Few c) : Few (crS c) := by
  unfold crS
  split
  · rename_i he
    have := abE_not.1 he
    exact few_turn h (by omega)
  · by_cases h0 : c.ph = 0
    · unfold Few at *
      simp only [turnC, List.length_replicate]
      exact h
    · exact few_turn h h0
theorem ok_beg {c : Co} (h : CoOk c) (x : Int) : CoOk (begS c x) := by
  unfold begS
  split
  · rename_i e; exact (beg_ok h e).1
  · exact h
theorem ok_ab {c : Co} (h : CoOk c) : CoOk (abS c) := by
  unfold abS
  split
  · rename_i e; have := abE_not.1 e
    exact turn_ok h (by omega) (by omega)
  · exact h
theorem ok_cr {c : Co} (h : CoOk c) : CoOk (crS c) := by
  have hph := h.ph
  unfold crS
  split
  · rename_i e; have := abE_not.1 e
    exact turn_ok h (by omega) (by omega)
  · by_cases h0 : c.ph = 0
    · rw [h0]; exact turn0_ok h h0
    · exact turn_ok h (by omega) (by omega)
end Bar
end Go.Proofs.Ytpjbeodnalgkfaa
