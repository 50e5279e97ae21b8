/- Layer 14: the mathematics of nodes: each once, rising. Nothing of the program is named here. -/
import Derived.Test.YtdcggnfplfgcnaaPlaM
import Derived.Lib.SlicesCompact
set_option linter.all false
namespace Go.Proofs.Ytdcggnfplfgcnaa
open Go.RowKit
namespace Pla

def nodesA (ns : List Int) : List Int := Lib.compact (ns.mergeSort fun x y => decide (x ≤ y))
theorem rise_uniq : ∀ {a b : List Int}, a.Pairwise (· < ·) → b.Pairwise (· < ·) → (∀ z, z ∈ a ↔ z ∈ b) → a = b
  | [], [], _, _, _ => rfl
  | [], y :: b, _, _, h => by have := (h y).2 (by simp); simp at this
  | x :: a, [], _, _, h => by have := (h x).1 (by simp); simp at this
  | x :: a, y :: b, ha, hb, h => by
    obtain ⟨a1, a2⟩ := List.pairwise_cons.1 ha
    obtain ⟨b1, b2⟩ := List.pairwise_cons.1 hb
    have e : x = y := by
      rcases List.mem_cons.1 ((h x).1 (by simp)) with e | hx
      · exact e
      · rcases List.mem_cons.1 ((h y).2 (by simp)) with e | hy
        · exact e.symm
        · have := b1 x hx
          have := a1 y hy
          omega
    subst e
    refine congrArg _ (rise_uniq a2 b2 fun z => ⟨fun hz => ?_, fun hz => ?_⟩)
    · rcases List.mem_cons.1 ((h z).1 (List.mem_cons_of_mem _ hz)) with e | r
      · have := a1 z hz; omega
      · exact r
    · rcases List.mem_cons.1 ((h z).2 (List.mem_cons_of_mem _ hz)) with e | r
      · have := b1 z hz; omega
      · exact r
theorem keeps_iff {d : Array Int} {j : Nat} : Lib.keeps d j = true ↔ j = 0 ∨ d[j]! ≠ d[j - 1]! := by simp [Lib.keeps]
theorem compact_mem (zs : List Int) (z : Int) : z ∈ Lib.compact zs ↔ z ∈ zs := by
  unfold Lib.compact Lib.compactUpTo
  constructor
  · intro h
    obtain ⟨j, hj, e⟩ := List.mem_map.1 h
    have hj := List.mem_range.1 (List.mem_filter.1 hj).1
    rw [← e]
    simp [hj]
  · intro h
    obtain ⟨j0, hj0, e0⟩ := List.getElem_of_mem h
    have key : ∀ (j : Nat) (hj : j < zs.length), zs[j] = z → ∃ i, i < zs.length ∧ Lib.keeps zs.toArray i = true ∧ zs.toArray[i]! = z := by
      intro j
      induction j with
      | zero =>
        intro hj e
        exact ⟨0, hj, keeps_iff.2 (.inl rfl), by simp [hj, e]⟩
      | succ j ih =>
        intro hj e
        by_cases hk : zs[j]'(by omega) = z
        · exact ih (by omega) hk
        · refine ⟨j + 1, hj, keeps_iff.2 (.inr ?_), by simp [hj, e]⟩
          simp [hj, show j < zs.length by omega, e]
          exact fun q => hk q.symm
    obtain ⟨i, hi, hk, e⟩ := key j0 hj0 e0
    exact List.mem_map.2 ⟨i, List.mem_filter.2 ⟨List.mem_range.2 hi, hk⟩, e⟩
theorem compact_rise {zs : List Int} (h : zs.Pairwise (· ≤ ·)) : (Lib.compact zs).Pairwise (· < ·) := by
  unfold Lib.compact Lib.compactUpTo
  rw [List.pairwise_map, List.pairwise_filter]
  rw [List.pairwise_iff_getElem] at h
  rw [List.pairwise_iff_getElem]
  intro i j hi hj hij h1 h2
  simp only [List.length_range] at hi hj
  simp only [List.getElem_range] at h1 h2 ⊢
  have h3 : zs.toArray[j]! ≠ zs.toArray[j - 1]! := by
    rcases keeps_iff.1 h2 with e | e
    · omega
    · exact e
  have hj1 : j - 1 < zs.length := by omega
  simp only [List.getElem!_toArray, List.getElem!_eq_getElem?_getD, List.getElem?_eq_getElem hi, List.getElem?_eq_getElem hj, List.getElem?_eq_getElem hj1, Option.getD_some] at h3 ⊢
  have a1 : zs[i] ≤ zs[j - 1] := by
    by_cases e : i = j - 1
    · subst e; exact Int.le_refl _
    · exact h i (j - 1) hi hj1 (by omega)
  have a2 : zs[j - 1] ≤ zs[j] := h (j - 1) j hj1 hj (by omega)
  omega
theorem nodes_rise (ns : List Int) : (nodesA ns).Pairwise (· < ·) := by
  unfold nodesA
  refine compact_rise ?_
  have := List.pairwise_mergeSort (le := fun x y : Int => decide (x ≤ y)) (by simp; omega) (by simp; omega) ns
  exact this.imp fun h => by simpa using h
theorem nodes_mem (ns : List Int) (z : Int) : z ∈ nodesA ns ↔ z ∈ ns := by
  unfold nodesA
  rw [compact_mem, List.mem_mergeSort]
theorem nodes_len (ns : List Int) : (nodesA ns).length ≤ ns.length := by
  unfold nodesA Lib.compact Lib.compactUpTo
  rw [List.length_map]
  refine Nat.le_trans (List.length_filter_le _ _) ?_
  simp
/-! ### the document's way: the least one that is more than the last one -/
def cand (any : Bool) (last z : Int) : Prop := any = false ∨ last < z
def Inn (ns : List Int) (any : Bool) (last : Int) (i : Nat) (nx : Int) (fd : Bool) : Prop := (fd = false ∧ ∀ z ∈ ns.take i, ¬ cand any last z) ∨ (fd = true ∧ nx ∈ ns.take i ∧ cand any last nx ∧ ∀ z ∈ ns.take i, cand any last z → nx ≤ z)
theorem take_mem {ns : List Int} {i : Nat} {x z : Int} (hx : ns[i]? = some x) : z ∈ ns.take (i + 1) ↔ z ∈ ns.take i ∨ z = x := by
  rw [List.take_add_one, hx]
  simp
theorem inn_start (ns : List Int) (any : Bool) (last : Int) : Inn ns any last 0 0 false := .inl ⟨rfl, by simp⟩
theorem inn_take {ns : List Int} {any : Bool} {last : Int} {i : Nat} {nx x : Int} {fd : Bool} (h : Inn ns any last i nx fd) (hx : ns[i]? = some x) (hc : cand any last x) (hl : fd = false ∨ x < nx) : Inn ns any last (i + 1) x true := by
  refine .inr ⟨rfl, (take_mem hx).2 (.inr rfl), hc, fun z hz hcz => ?_⟩
  rcases (take_mem hx).1 hz with hz | rfl
  · rcases h with ⟨e, h⟩ | ⟨e, h1, h2, h3⟩
    · exact absurd hcz (h z hz)
    · have := h3 z hz hcz
      rcases hl with e2 | e2
      · rw [e] at e2; cases e2
      · omega
  · exact Int.le_refl _
theorem inn_skip {ns : List Int} {any : Bool} {last : Int} {i : Nat} {nx x : Int} {fd : Bool} (h : Inn ns any last i nx fd) (hx : ns[i]? = some x) (hc : ¬ cand any last x ∨ (fd = true ∧ nx ≤ x)) : Inn ns any last (i + 1) nx fd := by
  rcases h with ⟨e, h⟩ | ⟨e, h1, h2, h3⟩
  · refine .inl ⟨e, fun z hz => ?_⟩
    rcases (take_mem hx).1 hz with hz | rfl
    · exact h z hz
    · rcases hc with hc | ⟨hc, _⟩
      · exact hc
      · rw [e] at hc; cases hc
  · refine .inr ⟨e, (take_mem hx).2 (.inl h1), h2, fun z hz hcz => ?_⟩
    rcases (take_mem hx).1 hz with hz | rfl
    · exact h3 z hz hcz
    · rcases hc with hc | ⟨_, hc⟩
      · exact absurd hcz hc
      · exact hc
def Out (ns : List Int) (any : Bool) (last : Int) (out : List Int) : Prop := out.Pairwise (· < ·) ∧ (any = false → out = []) ∧ (any = true → last ∈ out ∧ ∀ z, z ∈ out ↔ z ∈ ns ∧ z ≤ last)
theorem out_start (ns : List Int) : Out ns false 0 [] := ⟨List.Pairwise.nil, fun _ => rfl, fun h => by cases h⟩
theorem out_next {ns : List Int} {any : Bool} {last nx : Int} {out : List Int} (h : Out ns any last out) (hi : Inn ns any last ns.length nx true) : Out ns true nx (out ++ [nx]) ∧ nx ∈ ns ∧ (any = true → last < nx) := by
  obtain ⟨h1, h2, h3⟩ := h
  rcases hi with ⟨e, _⟩ | ⟨_, k1, k2, k3⟩
  · cases e
  rw [List.take_length] at k1 k3
  cases any with
  | false =>
    rw [h2 rfl, List.nil_append]
    refine ⟨⟨by simp, fun h => (by cases h), fun _ => ⟨by simp, fun z => ?_⟩⟩, k1, fun h => by cases h⟩
    rw [List.mem_singleton]
    constructor
    · rintro rfl; exact ⟨k1, Int.le_refl _⟩
    · rintro ⟨hz, hle⟩
      have := k3 z hz (.inl rfl)
      omega
  | true =>
    obtain ⟨g1, g2⟩ := h3 rfl
    have hlt : last < nx := by
      rcases k2 with e | e
      · cases e
      · exact e
    refine ⟨⟨?_, fun h => (by cases h), fun _ => ⟨by simp, fun z => ?_⟩⟩, k1, fun _ => hlt⟩
    · rw [List.pairwise_append]
      refine ⟨h1, by simp, fun a ha b hb => ?_⟩
      rw [List.mem_singleton.1 hb]
      have := ((g2 a).1 ha).2
      omega
    · rw [List.mem_append, List.mem_singleton, g2]
      constructor
      · rintro (⟨q1, q2⟩ | rfl)
        · exact ⟨q1, by omega⟩
        · exact ⟨k1, Int.le_refl _⟩
      · rintro ⟨q1, q2⟩
        by_cases hz : z ≤ last
        · exact .inl ⟨q1, hz⟩
        · have := k3 z q1 (.inr (by omega))
          exact .inr (by omega)
theorem out_done {ns : List Int} {any : Bool} {last nx : Int} {out : List Int} (h : Out ns any last out) (hi : Inn ns any last ns.length nx false) : out = nodesA ns := by
  obtain ⟨h1, h2, h3⟩ := h
  rcases hi with ⟨_, k⟩ | ⟨e, _⟩
  · rw [List.take_length] at k
    refine rise_uniq h1 (nodes_rise ns) fun z => ?_
    rw [nodes_mem]
    cases any with
    | false =>
      rw [h2 rfl]
      constructor
      · intro h; simp at h
      · intro hz; exact absurd (.inl rfl) (k z hz)
    | true =>
      rw [(h3 rfl).2 z]
      constructor
      · exact fun h => h.1
      · intro hz
        have := k z hz
        unfold cand at this
        simp at this
        exact ⟨hz, this⟩
  · cases e
/-- How many are left: those that are more than the last one. -/
def leftN (ns : List Int) (any : Bool) (last : Int) : Nat := if any then (ns.filter fun z => decide (last < z)).length else ns.length + 1
theorem left_less {ns : List Int} {any : Bool} {last nx : Int} (hm : nx ∈ ns) (h : any = true → last < nx) : leftN ns true nx < leftN ns any last := by
  unfold leftN
  cases any with
  | false =>
    simp only [if_true, Bool.false_eq_true, if_false]
    exact Nat.lt_succ_of_le (List.length_filter_le _ _)
  | true =>
    simp only [if_true]
    have hlt := h rfl
    clear h
    induction ns with
    | nil => simp at hm
    | cons a ns ih =>
      have mono : ∀ l : List Int, (l.filter fun z => decide (nx < z)).length ≤ (l.filter fun z => decide (last < z)).length := by
        intro l
        induction l with
        | nil => simp
        | cons b l ihl =>
          simp only [List.filter_cons]
          by_cases h1 : nx < b
          · simp [h1, show last < b by omega]; omega
          · by_cases h2 : last < b <;> simp [h1, h2] <;> omega
      simp only [List.filter_cons]
      rcases List.mem_cons.1 hm with e | hm
      · have h1 : ¬ nx < a := by omega
        have h2 : last < a := by omega
        have := mono ns
        simp [h1, h2]
        omega
      · have := ih hm
        by_cases h1 : nx < a
        · simp [h1, show last < a by omega]; omega
        · by_cases h2 : last < a <;> simp [h1, h2] <;> omega
end Pla
end Go.Proofs.Ytdcggnfplfgcnaa
