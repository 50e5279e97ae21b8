/- Layer 10: lists of records that a call makes. -/
import Derived.Test.YtganoklclnbjkaaStrB
import Derived.Test.YtganoklclnbjkaaBloD
import Derived.Test.YtganoklclnbjkaaFn
import Derived.Deep.RegionLaw
set_option linter.all false
namespace Go.Proofs.Ytganoklclnbjkaa
open Go.RowKit
namespace Str
open Blo (I64)
theorem take_snoc {α : Type} {l : List α} {k : Nat} {x : α} (h : l[k]? = some x) : l.take (k + 1) = l.take k ++ [x] := by
  obtain ⟨hk, rfl⟩ := List.getElem?_eq_some_iff.1 h
  exact List.take_succ_eq_append_getElem hk
abbrev ra0 : Array Value := #[.int .i64 0, .int .i64 0, .int .i64 0, .int .i64 0, .int .i64 0, .int .i64 0, .int .i64 0, .slice none 0 0]
theorem results_rec {fn : Func} {W : World} {q k : Nat} {a b c d e f g h : Value} {tmps : Array Value} (hr : fn.results = #[.cell k 29]) (h2 : tmps.getD k undef = .pointer (some ⟨q, 0, none⟩)) (hb : Blk W q 29 #[a, b, c, d, e, f, g, h]) :
    (results fn tmps).run Try.prog W = .ok (.agg #[a, b, c, d, e, f, g, h]) W := by
  have d0 := hb.cell (j := 0) rfl
  have d1 := hb.cell (j := 1) rfl
  have d2 := hb.cell (j := 2) rfl
  have d3 := hb.cell (j := 3) rfl
  have d4 := hb.cell (j := 4) rfl
  have d5 := hb.cell (j := 5) rfl
  have d6 := hb.cell (j := 6) rfl
  have d7 := hb.cell (j := 7) rfl
  have h2' : tmps[k]?.getD undef = .pointer (some ⟨q, 0, none⟩) := by simpa using h2
  simp [results, hr, h2', go_sem, d0, d1, d2, d3, d4, d5, d6, d7]
abbrev K8 (w : World) (b : Nat) (r : Rec) (d : Value) : Prop := w.cell? ⟨b, 0, none⟩ = some (.int .i64 r.k) ∧ w.cell? ⟨b, 1, none⟩ = some (.int .i64 r.sh) ∧ w.cell? ⟨b, 2, none⟩ = some (.int .i64 r.sn) ∧ w.cell? ⟨b, 3, none⟩ = some (.int .i64 r.ba) ∧ w.cell? ⟨b, 4, none⟩ = some (.int .i64 r.ma) ∧ w.cell? ⟨b, 5, none⟩ = some (.int .i64 r.off) ∧ w.cell? ⟨b, 6, none⟩ = some (.int .i64 r.len) ∧ w.cell? ⟨b, 7, none⟩ = some d
theorem k8 {w : World} {b : Nat} {t : TypeId} {r : Rec} {d : Value} (h : Blk w b t (ra r d)) : K8 w b r d := by
  have := (rc_blk h).all
  simpa only [Nat.zero_add] using this
theorem size_rec : (Try.prog.info? 29).map (·.size) = some 8 := by kernel_rfl
theorem one_rec (r : Rec) (A : Option Addr) (n c : Nat) : (ra r (.slice A n c)).all (·.oneCell') = true := by simp [Value.oneCell']
theorem far_i64 {z : Int} (h : far z) : I64 z := by unfold far at h; unfold I64; omega
theorem MayR.fit {r : Rec} (h : MayR r) : FitR r := by
  have hk := h.1.kind
  obtain ⟨_, h1, h2, h3, h4, h5, h6⟩ := h
  exact ⟨by unfold I64; omega, far_i64 h1, far_i64 h2, far_i64 h3, far_i64 h4, far_i64 h5, far_i64 h6⟩
abbrev rv8 (p : Rec × Value) : List Value := rv p.1 p.2
def rvs (L : List (Rec × Value)) : List Value := L.flatMap rv8
theorem rvs_app (L L' : List (Rec × Value)) : rvs (L ++ L') = rvs L ++ rvs L' := by simp [rvs]
theorem rvs_snoc (L : List (Rec × Value)) (p : Rec × Value) : rvs (L ++ [p]) = rvs L ++ rv8 p := by rw [rvs_app]; simp [rvs]
theorem rvs_cons (p : Rec × Value) (L : List (Rec × Value)) : rvs (p :: L) = rv8 p ++ rvs L := rfl
theorem rvs_len : ∀ L : List (Rec × Value), (rvs L).length = L.length * 8
  | [] => rfl
  | p :: L => by rw [rvs_cons, List.length_append, rvs_len L, List.length_cons]; simp; omega
theorem rvs_at : ∀ {L : List (Rec × Value)} {k : Nat} (h : k < L.length) {j : Nat} (_ : j < 8), (rvs L)[k * 8 + j]? = (rv8 L[k])[j]?
  | p :: L, 0, _, j, hj => by
    rw [rvs_cons, List.getElem?_append_left (by simp; omega)]
    simp
  | p :: L, k + 1, h, j, hj => by
    rw [rvs_cons, List.getElem?_append_right (by simp; omega)]
    have e : (k + 1) * 8 + j - (rv8 p).length = k * 8 + j := by simp; omega
    rw [e, rvs_at (L := L) (by simpa using h) hj]
    simp
/-- A record that fits into memory. -/
structure Sm (r : Rec) : Prop where
  fit : FitR r
  low : W64 r.d
  by8 : r.d.length * 8 ≤ 140737488355328
theorem MayR.sm {r : Rec} (h : MayR r) (hw : W64 r.d) : Sm r := ⟨h.fit, hw, by have := h.1.data; omega⟩
/-- v is a row of the call's own, of records, whose numbers lie in rows of the call's own. -/
structure Orl (w : World) (base : Nat) (v : Value) (n : Nat) (L : List (Rec × Value)) : Prop where
  row : w.ownsRow base 29 8 v n (rvs L)
  data : ∀ p ∈ L, w.ownsRow base 62 1 p.2 p.1.d.length (nvs p.1.d)
  sm : ∀ p ∈ L, Sm p.1
theorem Orl.len {w : World} {base : Nat} {v : Value} {n : Nat} {L : List (Rec × Value)} (h : Orl w base v n L) : n = L.length := by have := h.row.1; rw [rvs_len] at this; omega
theorem Orl.keep {w w' : World} {base : Nat} {v : Value} {n : Nat} {L : List (Rec × Value)} (h : Orl w base v n L) (hb : Below w.heap.size w w') : Orl w' base v n L := ⟨own_keep h.row hb, fun p hp => own_keep (h.data p hp) hb, h.sm⟩
theorem Orl.nil (w : World) (base : Nat) : Orl w base (.slice none 0 0) 0 [] := ⟨own_nil _ _ _ _, by simp, by simp⟩
theorem Orl.mono {w : World} {base base' : Nat} {v : Value} {n : Nat} {L : List (Rec × Value)} (h : Orl w base v n L) (hb : base' ≤ base) : Orl w base' v n L := ⟨h.row.mono hb, fun p hp => (h.data p hp).mono hb, h.sm⟩
theorem Orl.grown {w w' : World} {base : Nat} {v : Value} {n : Nat} {L : List (Rec × Value)} {row : Option Nat} (h : Orl w base v n L) (hg : w.grownBy w' row) (hr : ∀ k, row = some k → k < base) : Orl w' base v n L :=
  ⟨own_grown h.row hg (fun k hk e => by have := hr k e.symm; have := (h.row.lt k hk).1; omega), fun p hp => own_grown (h.data p hp) hg (fun k hk e => by have := hr k e.symm; have := ((h.data p hp).lt k hk).1; omega), h.sm⟩
/-- Records more. -/
theorem Orl.app {w w' : World} {base : Nat} {v v' : Value} {n m : Nat} {L M : List (Rec × Value)} (h : Orl w base v n L) (hg : w.grownBy w' v.ownBlock) (hr : w'.ownsRow base 29 8 v' (n + m) (rvs L ++ rvs M)) (hd : ∀ p ∈ M, w.ownsRow base 62 1 p.2 p.1.d.length (nvs p.1.d)) (hs : ∀ p ∈ M, Sm p.1) : Orl w' base v' (n + m) (L ++ M) := by
  have hne : ∀ {u : Value} {m : Nat} {xs : List Value}, w.ownsRow base 62 1 u m xs → ∀ k, u.ownBlock = some k → some k ≠ v.ownBlock := fun hu k hk e => own_ne h.row hu (by decide) e.symm hk
  refine ⟨by rw [rvs_app]; exact hr, fun p hp => ?_, fun p hp => ?_⟩
  · rcases List.mem_append.1 hp with hp | hp
    · exact own_grown (h.data p hp) hg (hne (h.data p hp))
    · exact own_grown (hd p hp) hg (hne (hd p hp))
  · rcases List.mem_append.1 hp with hp | hp
    · exact h.sm p hp
    · exact hs p hp
theorem Orl.bounds {w : World} {base n m c : Nat} {A : Option Addr} {L : List (Rec × Value)} (h : Orl w base (.slice A m c) n L) : m = n ∧ n ≤ c ∧ c ≤ 9223372036854775807 ∧ (A = none → n = 0 ∧ c = 0) := by
  obtain ⟨A', c', e, h1, h2, h3⟩ := own_form h.row
  injection e with e1 e2 e3
  subst e1 e3
  unfold maxLen at h2
  exact ⟨e2, h1, by omega, h3⟩
theorem rdt_own {w : World} {base : Nat} {r : Rec} {v : Value} (h : w.ownsRow base 62 1 v r.d.length (nvs r.d)) (hs : Sm r) : ∃ X c, v = .slice X r.d.length c ∧ Rdt w r X r.d.length c := by
  obtain ⟨X, c, rfl, h1, h2, h3⟩ := own_form h
  unfold maxLen at h2
  exact ⟨X, c, rfl, ⟨no_ns h hs.low, h3, h1, by omega, hs.by8, hs.fit⟩⟩
/-- What is owned is read. -/
theorem Orl.rcl {w : World} {base n c : Nat} {A : Option Addr} {L : List (Rec × Value)} (h : Orl w base (.slice A n c) n L) : Rcl w A n (L.map Prod.fst) := by
  refine ⟨by rw [List.length_map]; exact h.len, fun k hk => ?_⟩
  have hk' : k < L.length := by simpa using hk
  have hmem := List.getElem_mem hk'
  obtain ⟨X, c', e, hd⟩ := rdt_own (h.data _ hmem) (h.sm _ hmem)
  have hrd := rd_own h.row
  have g : ∀ j (u : Value), (rv8 L[k])[j]? = some u → ∃ b o, A = some ⟨b, o, none⟩ ∧ w.cell? ⟨b, o + k * 8 + j, none⟩ = some u := fun j u hu => by
    have hj : j < 8 := by have := (List.getElem?_eq_some_iff.1 hu).1; simpa using this
    obtain ⟨b, o, e, hc⟩ := hrd.2 (k * 8 + j) u (by rw [rvs_at hk' hj]; exact hu)
    exact ⟨b, o, e, by rw [Nat.add_assoc]; exact hc⟩
  obtain ⟨b, o, eA, _⟩ := g 0 _ rfl
  refine ⟨b, o, X, L[k].1.d.length, c', eA, fun j u hu => ?_, ?_⟩
  · simp only [List.getElem_map] at hu
    obtain ⟨b', o', e', hc⟩ := g j u (by unfold rv8; rw [e]; exact hu)
    rw [eA] at e'
    injection e' with e'
    injection e' with e1 e2
    subst e1 e2
    exact hc
  · simp only [List.getElem_map]
    exact hd
theorem info_rec : (Try.prog.info? 29).map (fun i => (i.zero, i.size, i.bytes)) = some (some (.agg ra0), 8, 80) := by kernel_rfl
theorem rec_info : ∃ i, Try.prog.info? 29 = some i ∧ i.zero = some (.agg ra0) ∧ i.size = 8 ∧ i.bytes = 80 := by
  obtain ⟨i, hi, he⟩ := Option.map_eq_some_iff.1 info_rec
  simp only [Prod.mk.injEq] at he
  exact ⟨i, hi, he.1, he.2.1, he.2.2⟩
theorem rvs_one {L : List (Rec × Value)} (h : ∀ p ∈ L, ∃ X n c, p.2 = .slice X n c) : ∀ u ∈ rvs L, u.oneCell' = true := by
  intro u hu
  obtain ⟨p, hp, hu⟩ := List.mem_flatMap.1 hu
  obtain ⟨X, n, c, e⟩ := h p hp
  simp only [rv8, rv, e, List.mem_cons, List.not_mem_nil, or_false] at hu
  rcases hu with rfl | rfl | rfl | rfl | rfl | rfl | rfl | rfl <;> rfl
/-- A new row of one record. -/
theorem rd_new1 (w : World) (r : Rec) (X : Option Addr) (n c : Nat) (t : TypeId) {g : Nat} (hg : g = w.heap.size) : Rd (w.alloc (.cells (ra r (.slice X n c)) t)) (some ⟨g, 0, none⟩) 8 1 (rvs [(r, .slice X n c)]) := by
  subst hg
  exact Rd.new w (ra r (.slice X n c)) t (0, 0) (sz := 8) (n := 1) rfl
end Str
end Go.Proofs.Ytganoklclnbjkaa
