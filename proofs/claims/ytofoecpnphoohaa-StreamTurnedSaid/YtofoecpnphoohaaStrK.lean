/- Layer 10: lists of records that a call makes. -/
import Derived.Test.YtofoecpnphoohaaStrJ
import Derived.Test.YtofoecpnphoohaaStrE
set_option linter.all false
namespace Go.Proofs.Ytofoecpnphoohaa
open Go.RowKit
namespace Str
open Blo (I64)
abbrev rv8 (p : Rec × Value) : List Value := rv p.1 p.2
def rvs (L : List (Rec × Value)) : List Value := L.flatMap rv8
theorem rvs_app (L L' : List (Rec × Value)) : rvs (L ++ L') = rvs L ++ rvs L' := by simp [rvs]
theorem rvs_snoc (L : List (Rec × Value)) (p : Rec × Value) : rvs (L ++ [p]) = rvs L ++ rv8 p := by rw [rvs_app]; simp [rvs]
theorem rvs_cons (p : Rec × Value) (L : List (Rec × Value)) : rvs (p :: L) = rv8 p ++ rvs L := rfl
theorem rvs_len : ∀ L : List (Rec × Value), (rvs L).length = L.length * 8
  | [] => rfl
  | p :: L => by rw [rvs_cons, List.length_append, rvs_len L, List.length_cons]; simp; omega
theorem rvs_at : ∀ {L : List (Rec × Value)} {k : Nat} (h : k < L.length) {j : Nat} (_ : j < 8), (rvs L)[k * 8 + j]? = (rv8 L[k])[j]?
  | p :: L, 0, _, j, hj => by
    rw [rvs_cons, List.getElem?_append_left (by simp; omega)]
    simp
  | p :: L, k + 1, h, j, hj => by
    rw [rvs_cons, List.getElem?_append_right (by simp; omega)]
    have e : (k + 1) * 8 + j - (rv8 p).length = k * 8 + j := by simp; omega
    rw [e, rvs_at (L := L) (by simpa using h) hj]
    simp
/-- A record that fits into memory. -/
structure Sm (r : Rec) : Prop where
  fit : FitR r
  low : W64 r.d
  by8 : r.d.length * 8 ≤ 140737488355328
theorem MayR.sm {r : Rec} (h : MayR r) (hw : W64 r.d) : Sm r := ⟨h.fit, hw, by have := h.1.data; omega⟩
/-- v is a row of the call's own, of records, whose numbers lie in rows of the call's own. -/
structure Orl (w : World) (base : Nat) (v : Value) (n : Nat) (L : List (Rec × Value)) : Prop where
  row : w.ownsRow base 39 8 v n (rvs L)
  data : ∀ p ∈ L, w.ownsRow base 52 1 p.2 p.1.d.length (nvs p.1.d)
  sm : ∀ p ∈ L, Sm p.1
theorem Orl.len {w : World} {base : Nat} {v : Value} {n : Nat} {L : List (Rec × Value)} (h : Orl w base v n L) : n = L.length := by have := h.row.1; rw [rvs_len] at this; omega
theorem Orl.keep {w w' : World} {base : Nat} {v : Value} {n : Nat} {L : List (Rec × Value)} (h : Orl w base v n L) (hb : Below w.heap.size w w') : Orl w' base v n L := ⟨own_keep h.row hb, fun p hp => own_keep (h.data p hp) hb, h.sm⟩
theorem Orl.nil (w : World) (base : Nat) : Orl w base (.slice none 0 0) 0 [] := ⟨own_nil _ _ _ _, by simp, by simp⟩
theorem Orl.mono {w : World} {base base' : Nat} {v : Value} {n : Nat} {L : List (Rec × Value)} (h : Orl w base v n L) (hb : base' ≤ base) : Orl w base' v n L := ⟨h.row.mono hb, fun p hp => (h.data p hp).mono hb, h.sm⟩
theorem Orl.grown {w w' : World} {base : Nat} {v : Value} {n : Nat} {L : List (Rec × Value)} {row : Option Nat} (h : Orl w base v n L) (hg : w.grownBy w' row) (hr : ∀ k, row = some k → k < base) : Orl w' base v n L :=
  ⟨own_grown h.row hg (fun k hk e => by have := hr k e.symm; have := (h.row.lt k hk).1; omega), fun p hp => own_grown (h.data p hp) hg (fun k hk e => by have := hr k e.symm; have := ((h.data p hp).lt k hk).1; omega), h.sm⟩
/-- Records more. -/
theorem Orl.app {w w' : World} {base : Nat} {v v' : Value} {n m : Nat} {L M : List (Rec × Value)} (h : Orl w base v n L) (hg : w.grownBy w' v.ownBlock) (hr : w'.ownsRow base 39 8 v' (n + m) (rvs L ++ rvs M)) (hd : ∀ p ∈ M, w.ownsRow base 52 1 p.2 p.1.d.length (nvs p.1.d)) (hs : ∀ p ∈ M, Sm p.1) : Orl w' base v' (n + m) (L ++ M) := by
  have hne : ∀ {u : Value} {m : Nat} {xs : List Value}, w.ownsRow base 52 1 u m xs → ∀ k, u.ownBlock = some k → some k ≠ v.ownBlock := fun hu k hk e => own_ne h.row hu (by decide) e.symm hk
  refine ⟨by rw [rvs_app]; exact hr, fun p hp => ?_, fun p hp => ?_⟩
  · rcases List.mem_append.1 hp with hp | hp
    · exact own_grown (h.data p hp) hg (hne (h.data p hp))
    · exact own_grown (hd p hp) hg (hne (hd p hp))
  · rcases List.mem_append.1 hp with hp | hp
    · exact h.sm p hp
    · exact hs p hp
theorem Orl.bounds {w : World} {base n m c : Nat} {A : Option Addr} {L : List (Rec × Value)} (h : Orl w base (.slice A m c) n L) : m = n ∧ n ≤ c ∧ c ≤ 9223372036854775807 ∧ (A = none → n = 0 ∧ c = 0) := by
  obtain ⟨A', c', e, h1, h2, h3⟩ := own_form h.row
  injection e with e1 e2 e3
  subst e1 e3
  unfold maxLen at h2
  exact ⟨e2, h1, by omega, h3⟩
theorem rdt_own {w : World} {base : Nat} {r : Rec} {v : Value} (h : w.ownsRow base 52 1 v r.d.length (nvs r.d)) (hs : Sm r) : ∃ X c, v = .slice X r.d.length c ∧ Rdt w r X r.d.length c := by
  obtain ⟨X, c, rfl, h1, h2, h3⟩ := own_form h
  unfold maxLen at h2
  exact ⟨X, c, rfl, ⟨no_ns h hs.low, h3, h1, by omega, hs.by8, hs.fit⟩⟩
/-- What is owned is read. -/
theorem Orl.rcl {w : World} {base n c : Nat} {A : Option Addr} {L : List (Rec × Value)} (h : Orl w base (.slice A n c) n L) : Rcl w A n (L.map Prod.fst) := by
  refine ⟨by rw [List.length_map]; exact h.len, fun k hk => ?_⟩
  have hk' : k < L.length := by simpa using hk
  have hmem := List.getElem_mem hk'
  obtain ⟨X, c', e, hd⟩ := rdt_own (h.data _ hmem) (h.sm _ hmem)
  have hrd := rd_own h.row
  have g : ∀ j (u : Value), (rv8 L[k])[j]? = some u → ∃ b o, A = some ⟨b, o, none⟩ ∧ w.cell? ⟨b, o + k * 8 + j, none⟩ = some u := fun j u hu => by
    have hj : j < 8 := by have := (List.getElem?_eq_some_iff.1 hu).1; simpa using this
    obtain ⟨b, o, e, hc⟩ := hrd.2 (k * 8 + j) u (by rw [rvs_at hk' hj]; exact hu)
    exact ⟨b, o, e, by rw [Nat.add_assoc]; exact hc⟩
  obtain ⟨b, o, eA, _⟩ := g 0 _ rfl
  refine ⟨b, o, X, L[k].1.d.length, c', eA, fun j u hu => ?_, ?_⟩
  · simp only [List.getElem_map] at hu
    obtain ⟨b', o', e', hc⟩ := g j u (by unfold rv8; rw [e]; exact hu)
    rw [eA] at e'
    injection e' with e'
    injection e' with e1 e2
    subst e1 e2
    exact hc
  · simp only [List.getElem_map]
    exact hd
theorem info_rec : (Try.prog.info? 39).map (fun i => (i.zero, i.size, i.bytes)) = some (some (.agg ra0), 8, 80) := by kernel_rfl
theorem rec_info : ∃ i, Try.prog.info? 39 = some i ∧ i.zero = some (.agg ra0) ∧ i.size = 8 ∧ i.bytes = 80 := by
  obtain ⟨i, hi, he⟩ := Option.map_eq_some_iff.1 info_rec
  simp only [Prod.mk.injEq] at he
  exact ⟨i, hi, he.1, he.2.1, he.2.2⟩
theorem rvs_one {L : List (Rec × Value)} (h : ∀ p ∈ L, ∃ X n c, p.2 = .slice X n c) : ∀ u ∈ rvs L, u.oneCell' = true := by
  intro u hu
  obtain ⟨p, hp, hu⟩ := List.mem_flatMap.1 hu
  obtain ⟨X, n, c, e⟩ := h p hp
  simp only [rv8, rv, e, List.mem_cons, List.not_mem_nil, or_false] at hu
  rcases hu with rfl | rfl | rfl | rfl | rfl | rfl | rfl | rfl <;> rfl
/-- A new row of one record. -/
theorem rd_new1 (w : World) (r : Rec) (X : Option Addr) (n c : Nat) (t : TypeId) {g : Nat} (hg : g = w.heap.size) : Rd (w.alloc (.cells (ra r (.slice X n c)) t)) (some ⟨g, 0, none⟩) 8 1 (rvs [(r, .slice X n c)]) := by
  subst hg
  exact Rd.new w (ra r (.slice X n c)) t (0, 0) (sz := 8) (n := 1) rfl
end Str
end Go.Proofs.Ytofoecpnphoohaa
