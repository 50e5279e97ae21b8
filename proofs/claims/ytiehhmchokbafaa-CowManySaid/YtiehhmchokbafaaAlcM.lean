/- Layer 5: the mathematics of an allocator's counts: rows of free units, sums, errors. Nothing of the program is named here. -/
import Derived.Test.YtiehhmchokbafaaTurn
set_option linter.all false
namespace Go.Proofs.Ytiehhmchokbafaa
open Go.RowKit

/-- A row of n cells, as an array. -/
def rowA (n : Nat) (v : Nat → Value) : Array Value := (Array.range n).map v
theorem size_rowA (n : Nat) (v : Nat → Value) : (rowA n v).size = n := by simp [rowA]
theorem rowA_at {n j : Nat} (v : Nat → Value) (h : j < n) : (rowA n v)[j]? = some (v j) := by
  simp [rowA, Array.getElem?_eq_getElem (show j < ((Array.range n).map v).size by simpa using h)]
theorem rowA_set (n j : Nat) (v : Nat → Value) (u : Value) : (rowA n v).setIfInBounds j u = rowA n (fun i => if i = j then u else v i) := by
  apply Array.ext
  · simp [rowA]
  · intro i h1 h2
    rw [Array.getElem_setIfInBounds (by simpa using h1)]
    by_cases h : j = i
    · subst h; simp [rowA]
    · rw [if_neg h]
      simp [rowA, Ne.symm h]
theorem rowA_congr {n : Nat} {v v' : Nat → Value} (h : ∀ j, j < n → v j = v' j) : rowA n v = rowA n v' := by
  apply Array.ext
  · simp [rowA]
  · intro i h1 h2
    have : i < n := by simpa [rowA] using h1
    simp [rowA, h i this]
theorem made_rowA (n : Nat) (u : Value) : madeCells #[u] n = rowA n (fun _ => u) := by
  apply Array.ext
  · simp [rowA, size_madeCells]
  · intro i h1 h2
    simp [rowA, madeCells, Nat.mod_one]
def ivF (c : Nat → Int) : Nat → Value := fun j => .int .i64 (c j)

/-- Units from lo on, k of them, done to. -/
def upd (f : Int → Int) (c : Nat → Int) (lo k : Nat) : Nat → Int := fun j => if lo ≤ j ∧ j < lo + k then f (c j) else c j
theorem upd_zero (f : Int → Int) (c : Nat → Int) (lo : Nat) : upd f c lo 0 = c := by
  funext j; unfold upd; rw [if_neg (by omega)]
theorem upd_succ (f : Int → Int) (c : Nat → Int) (lo k : Nat) : upd f c lo (k + 1) = fun j => if j = lo + k then f (c (lo + k)) else upd f c lo k j := by
  funext j
  unfold upd
  by_cases h : j = lo + k
  · subst h; rw [if_pos (by omega), if_pos rfl]
  · rw [if_neg h]
    by_cases h2 : lo ≤ j ∧ j < lo + k
    · rw [if_pos h2, if_pos (by omega)]
    · rw [if_neg h2, if_neg (by omega)]
theorem upd_at {f : Int → Int} {c : Nat → Int} {lo k : Nat} : upd f c lo k (lo + k) = c (lo + k) := by unfold upd; rw [if_neg (by omega)]

theorem upd_keep {f : Int → Int} {c : Nat → Int} {lo k : Nat} (hv : f (c (lo + k)) = c (lo + k)) : upd f c lo (k + 1) = upd f c lo k := by
  rw [upd_succ]
  funext j
  by_cases e : j = lo + k
  · subst e; rw [if_pos rfl, hv, upd_at]
  · rw [if_neg e]
/-- How many of k units from lo on are so; whether one is. -/
def cntIn (p : Int → Bool) (c : Nat → Int) (lo : Nat) : Nat → Nat
  | 0 => 0
  | k + 1 => cntIn p c lo k + if p (c (lo + k)) then 1 else 0
def anyIn (p : Int → Bool) (c : Nat → Int) (lo : Nat) : Nat → Bool
  | 0 => false
  | k + 1 => anyIn p c lo k || p (c (lo + k))
theorem cntIn_le (p : Int → Bool) (c : Nat → Int) (lo : Nat) : ∀ k, cntIn p c lo k ≤ k
  | 0 => Nat.le_refl _
  | k + 1 => by
    have := cntIn_le p c lo k
    unfold cntIn
    split <;> omega
theorem cntIn_yes {p : Int → Bool} {c : Nat → Int} {lo k : Nat} (h : p (c (lo + k)) = true) : cntIn p c lo (k + 1) = cntIn p c lo k + 1 := by simp [cntIn, h]
theorem cntIn_no {p : Int → Bool} {c : Nat → Int} {lo k : Nat} (h : p (c (lo + k)) = false) : cntIn p c lo (k + 1) = cntIn p c lo k := by simp [cntIn, h]
theorem cntIn_congr {p q : Int → Bool} {c c' : Nat → Int} {lo : Nat} : ∀ {k : Nat}, (∀ j, j < k → p (c (lo + j)) = q (c' (lo + j))) → cntIn p c lo k = cntIn q c' lo k
  | 0, _ => rfl
  | k + 1, h => by
    unfold cntIn
    rw [cntIn_congr (k := k) fun j hj => h j (by omega), h k (by omega)]
theorem anyIn_true {p : Int → Bool} {c : Nat → Int} {lo : Nat} : ∀ {k i : Nat}, i < k → p (c (lo + i)) = true → anyIn p c lo k = true
  | k + 1, i, hi, hp => by
    unfold anyIn
    by_cases h : i = k
    · subst h; rw [hp, Bool.or_true]
    · rw [anyIn_true (by omega) hp, Bool.true_or]
theorem anyIn_no {p : Int → Bool} {c : Nat → Int} {lo k : Nat} (h : anyIn p c lo k = false) (hp : p (c (lo + k)) = false) : anyIn p c lo (k + 1) = false := by simp [anyIn, h, hp]
theorem anyIn_at {p : Int → Bool} {c : Nat → Int} {lo : Nat} : ∀ {k : Nat}, anyIn p c lo k = false → ∀ j, j < k → p (c (lo + j)) = false
  | k + 1, h, j, hj => by
    unfold anyIn at h
    rw [Bool.or_eq_false_iff] at h
    by_cases e : j = k
    · subst e; exact h.2
    · exact anyIn_at h.1 j (by omega)
theorem anyIn_none {p : Int → Bool} {c : Nat → Int} {lo : Nat} : ∀ {k : Nat}, (∀ j, j < k → p (c (lo + j)) = false) → anyIn p c lo k = false
  | 0, _ => rfl
  | k + 1, h => anyIn_no (anyIn_none fun j hj => h j (by omega)) (h k (by omega))

/-- How many free units in a row end ahead of unit i. -/
def long (c : Nat → Int) : Nat → Nat
  | 0 => 0
  | i + 1 => if c i = 0 then long c i + 1 else 0
theorem long_le (c : Nat → Int) : ∀ i, long c i ≤ i
  | 0 => Nat.le_refl _
  | i + 1 => by
    have := long_le c i
    unfold long
    split <;> omega
theorem long_free (c : Nat → Int) : ∀ {i j : Nat}, i - long c i ≤ j → j < i → c j = 0
  | i + 1, j, h1, h2 => by
    unfold long at h1
    split at h1
    · rename_i h0
      by_cases e : j = i
      · subst e; exact h0
      · exact long_free c (i := i) (by have := long_le c i; omega) (by omega)
    · omega
/-- Where the first row of n free units ends. -/
def hit (c : Nat → Int) (n : Nat) : Nat → Option Nat
  | 0 => none
  | i + 1 => match hit c n i with
    | some j => some j
    | none => if long c (i + 1) = n then some i else none
theorem hit_mono {c : Nat → Int} {n j : Nat} : ∀ {i N : Nat}, i ≤ N → hit c n i = some j → hit c n N = some j
  | i, 0, h, hh => by
    have : i = 0 := by omega
    subst this; exact hh
  | i, N + 1, h, hh => by
    by_cases e : i = N + 1
    · subst e; exact hh
    · have := hit_mono (N := N) (by omega) hh
      simp [hit, this]
theorem hit_now {c : Nat → Int} {n i N : Nat} (h : hit c n i = none) (hl : long c (i + 1) = n) (hN : i < N) : hit c n N = some i :=
  hit_mono (i := i + 1) hN (by simp [hit, h, hl])
theorem hit_next {c : Nat → Int} {n i : Nat} (h : hit c n i = none) (hl : long c (i + 1) ≠ n) : hit c n (i + 1) = none := by simp [hit, h, hl]
theorem hit_some {c : Nat → Int} {n : Nat} : ∀ {N i : Nat}, hit c n N = some i → i < N ∧ long c (i + 1) = n
  | N + 1, i, h => by
    unfold hit at h
    split at h
    · rename_i j hj
      injection h with h
      subst h
      have := hit_some hj
      exact ⟨by omega, this.2⟩
    · split at h
      · rename_i hl
        injection h with h
        subst h
        exact ⟨by omega, hl⟩
      · cases h
theorem hit_row {c : Nat → Int} {n N i : Nat} (h : hit c n N = some i) (hn : 1 ≤ n) : i < N ∧ n ≤ i + 1 ∧ ∀ j, i + 1 - n ≤ j → j ≤ i → c j = 0 := by
  obtain ⟨h1, h2⟩ := hit_some h
  have h3 := long_le c (i + 1)
  exact ⟨h1, by omega, fun j h4 h5 => long_free c (i := i + 1) (by omega) (by omega)⟩
theorem long_congr {c c' : Nat → Int} : ∀ {i : Nat}, (∀ j, j < i → (c j = 0 ↔ c' j = 0)) → long c i = long c' i
  | 0, _ => rfl
  | i + 1, h => by
    unfold long
    rw [long_congr (i := i) fun j hj => h j (by omega)]
    by_cases e : c i = 0
    · rw [if_pos e, if_pos ((h i (by omega)).1 e)]
    · rw [if_neg e, if_neg fun e' => e ((h i (by omega)).2 e')]

/-! ### the answers -/
def takeR (N : Nat) (c : Nat → Int) (n : Int) : Int × Int × (Nat → Int) :=
  if n < 1 then (0, 1, c) else match hit c n.toNat N with
    | none => (0, 7, c)
    | some i => ((i : Int) + 1 - n, 0, upd (fun _ => 1) c (i + 1 - n.toNat) n.toNat)
/-- May units be held once more, or less? -/
def rightR (N : Nat) (c : Nat → Int) (f n : Int) : Int :=
  if n < 1 ∨ f < 0 ∨ (N : Int) - f < n then 1 else if anyIn (fun x => x < 1) c f.toNat n.toNat then 9 else 0
def shareR (N : Nat) (c : Nat → Int) (f n : Int) : Int × (Nat → Int) :=
  if rightR N c f n ≠ 0 then (rightR N c f n, c) else if anyIn (fun x => x == 1048576) c f.toNat n.toNat then (6, c) else (0, upd (· + 1) c f.toNat n.toNat)
def dropF (x : Int) : Int := if x = 1 then -1 else x - 1
def dropR (N : Nat) (c : Nat → Int) (f n : Int) : Int × Int × (Nat → Int) :=
  if rightR N c f n ≠ 0 then (0, rightR N c f n, c) else ((cntIn (· == 1) c f.toNat n.toNat : Int), 0, upd dropF c f.toNat n.toNat)
def settleF (x : Int) : Int := if x = -1 then 0 else x
def freeR (N : Nat) (c : Nat → Int) : Int := cntIn (· == 0) c 0 N
def waitR (N : Nat) (c : Nat → Int) : Int := cntIn (· == -1) c 0 N
def settleC (N : Nat) (c : Nat → Int) : Nat → Int := upd settleF c 0 N
def countR (N : Nat) (c : Nat → Int) (i : Int) : Int := if i < 0 ∨ (N : Int) ≤ i then 0 else max 0 (c i.toNat)
/-- The counts are in their range. -/
def Rng (N : Nat) (c : Nat → Int) : Prop := ∀ j, j < N → -1 ≤ c j ∧ c j ≤ 1048576
theorem Rng.take {N : Nat} {c : Nat → Int} (h : Rng N c) (n : Int) : Rng N (takeR N c n).2.2 := fun j hj => by
  unfold takeR
  split
  · exact h j hj
  · split
    · exact h j hj
    · simp only [upd]
      split
      · omega
      · exact h j hj
theorem right_ok {N : Nat} {c : Nat → Int} {f n : Int} (h : rightR N c f n = 0) : 1 ≤ n ∧ 0 ≤ f ∧ f + n ≤ N ∧ ∀ j, j < n.toNat → 1 ≤ c (f.toNat + j) := by
  unfold rightR at h
  split at h
  · cases h
  · split at h
    · cases h
    · rename_i h1 h2
      refine ⟨by omega, by omega, by omega, fun j hj => ?_⟩
      have := anyIn_at (by simpa using h2) j hj
      simp at this
      omega
theorem right_cases (N : Nat) (c : Nat → Int) (f n : Int) : rightR N c f n = 0 ∨ rightR N c f n = 1 ∨ rightR N c f n = 9 := by
  unfold rightR; split
  · exact .inr (.inl rfl)
  · split
    · exact .inr (.inr rfl)
    · exact .inl rfl
theorem Rng.share {N : Nat} {c : Nat → Int} (h : Rng N c) (f n : Int) : Rng N (shareR N c f n).2 := fun j hj => by
  unfold shareR
  split
  · exact h j hj
  · split
    · exact h j hj
    · rename_i h1 h2
      obtain ⟨r1, r2, r3, r4⟩ := right_ok (by simpa using h1)
      simp only [upd]
      split
      · rename_i hi
        have := anyIn_at (by simpa using h2) (j - f.toNat) (by omega)
        rw [show f.toNat + (j - f.toNat) = j by omega] at this
        have := h j hj
        simp at *
        omega
      · exact h j hj
theorem Rng.drop {N : Nat} {c : Nat → Int} (h : Rng N c) (f n : Int) : Rng N (dropR N c f n).2.2 := fun j hj => by
  unfold dropR
  split
  · exact h j hj
  · rename_i h1
    obtain ⟨r1, r2, r3, r4⟩ := right_ok (by simpa using h1)
    simp only [upd]
    split
    · rename_i hi
      have h2 := r4 (j - f.toNat) (by omega)
      rw [show f.toNat + (j - f.toNat) = j by omega] at h2
      have := h j hj
      unfold dropF
      split <;> omega
    · exact h j hj
theorem Rng.settle {N : Nat} {c : Nat → Int} (h : Rng N c) : Rng N (settleC N c) := fun j hj => by
  have := h j hj
  unfold settleC upd settleF
  split
  · split <;> omega
  · omega
theorem Rng.settle_upto {N : Nat} {c : Nat → Int} (h : Rng N c) (i : Nat) : Rng N (upd settleF c 0 i) := fun j hj => by
  have := h j hj
  unfold upd settleF
  split
  · split <;> omega
  · omega
end Go.Proofs.Ytiehhmchokbafaa
