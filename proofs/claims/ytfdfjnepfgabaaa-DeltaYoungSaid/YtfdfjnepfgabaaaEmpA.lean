/- Layer 6: extents and lists of extents as they lie in memory; which extents may be, which neighbours are one. -/
import Derived.Test.YtfdfjnepfgabaaaEmpM
import Derived.Test.YtfdfjnepfgabaaaShp
import Derived.BigQuiet
import Derived.Lib.MinMax
set_option linter.all false
namespace Go.Proofs.Ytfdfjnepfgabaaa
open Go.RowKit

def I64 (z : Int) : Prop := -9223372036854775808 ≤ z ∧ z ≤ 9223372036854775807
/-- An extent's numbers are ints. -/
structure Fit (x : Ext) : Prop where
  off : I64 x.off
  len : I64 x.len
  phys : I64 x.phys
  birth : I64 x.birth
theorem Fit.all {x : Ext} (h : Fit x) : (-9223372036854775808 ≤ x.off ∧ x.off ≤ 9223372036854775807) ∧ (-9223372036854775808 ≤ x.len ∧ x.len ≤ 9223372036854775807) ∧ (-9223372036854775808 ≤ x.phys ∧ x.phys ≤ 9223372036854775807) ∧ (-9223372036854775808 ≤ x.birth ∧ x.birth ≤ 9223372036854775807) := ⟨h.off, h.len, h.phys, h.birth⟩
def ev (x : Ext) : List Value := [.int .i64 x.off, .int .i64 x.len, .int .i64 x.phys, .int .i64 x.birth]
def ea (x : Ext) : Array Value := #[.int .i64 x.off, .int .i64 x.len, .int .i64 x.phys, .int .i64 x.birth]
def evs (l : List Ext) : List Value := l.flatMap ev
theorem ea_list (x : Ext) : (ea x).toList = ev x := rfl
theorem ev_len (x : Ext) : (ev x).length = 4 := rfl
theorem evs_nil : evs [] = [] := rfl
theorem evs_cons (x : Ext) (l : List Ext) : evs (x :: l) = ev x ++ evs l := rfl
theorem evs_app (l l' : List Ext) : evs (l ++ l') = evs l ++ evs l' := by simp [evs]
theorem evs_len : ∀ l : List Ext, (evs l).length = l.length * 4
  | [] => rfl
  | x :: l => by rw [evs_cons, List.length_append, evs_len l, ev_len, List.length_cons]; omega
theorem evs_at : ∀ {l : List Ext} {k : Nat} (h : k < l.length) {j : Nat} (_ : j < 4), (evs l)[k * 4 + j]? = (ev l[k])[j]?
  | x :: l, 0, _, j, hj => by
    rw [evs_cons, List.getElem?_append_left (by rw [ev_len]; omega)]
    simp
  | x :: l, k + 1, h, j, hj => by
    rw [evs_cons, List.getElem?_append_right (by rw [ev_len]; omega), ev_len, show (k + 1) * 4 + j - 4 = k * 4 + j by omega, evs_at (l := l) (by simpa using h) hj]
    simp
/-- The slice value '.slice A n _' reads in w as the extents l. -/
structure Es (w : World) (A : Option Addr) (n : Nat) (l : List Ext) : Prop where
  rd : Rd w A 4 n (evs l)
  fit : ∀ x ∈ l, Fit x
theorem Es.len {w : World} {A : Option Addr} {n : Nat} {l : List Ext} (h : Es w A n l) : n = l.length := by have := h.rd.1; rw [evs_len] at this; omega
theorem Es.below {w w' : World} {A : Option Addr} {n : Nat} {l : List Ext} (h : Es w A n l) (hb : Below w.heap.size w w') : Es w' A n l := ⟨h.rd.below hb, h.fit⟩
theorem Es.alloc {w : World} {A : Option Addr} {n : Nat} {l : List Ext} (h : Es w A n l) (o : Obj) : Es (w.alloc o) A n l := ⟨h.rd.alloc o, h.fit⟩
theorem Es.drew {w : World} {A : Option Addr} {n : Nat} {l : List Ext} (h : Es w A n l) : Es w.drew A n l := ⟨h.rd, h.fit⟩
theorem Es.drewN {w : World} {A : Option Addr} {n : Nat} {l : List Ext} (h : Es w A n l) (k : Nat) : Es (w.drewN k) A n l := ⟨h.rd, h.fit⟩
theorem Es.nil {w : World} {A : Option Addr} : Es w A 0 [] := ⟨Rd.nil, by simp⟩
theorem Es.grown {w w' : World} {row : Option Nat} {A : Option Addr} {n : Nat} {l : List Ext} (h : Es w A n l) (hg : w.grownBy w' row) (hne : ∀ a, A = some a → some a.block ≠ row) : Es w' A n l := ⟨h.rd.grown hg hne, h.fit⟩
theorem Es.zero {w : World} {A : Option Addr} {n : Nat} {l : List Ext} (h : Es w A n l) (hA : A = none) : n = 0 := by
  cases l with
  | nil => have := h.len; simpa using this
  | cons x l => obtain ⟨b, o, e, _⟩ := h.rd.2 0 _ rfl; rw [hA] at e; cases e
/-- The cells of extent k. -/
theorem Es.at_ {w : World} {A : Option Addr} {n : Nat} {l : List Ext} (h : Es w A n l) {k : Nat} (hk : k < n) :
    ∃ b o, A = some ⟨b, o, none⟩ ∧ ∃ x, l[k]? = some x ∧ Fit x ∧ w.cell? ⟨b, o + k * 4, none⟩ = some (.int .i64 x.off) ∧ w.cell? ⟨b, o + k * 4 + 1, none⟩ = some (.int .i64 x.len) ∧ w.cell? ⟨b, o + k * 4 + 2, none⟩ = some (.int .i64 x.phys) ∧ w.cell? ⟨b, o + k * 4 + 3, none⟩ = some (.int .i64 x.birth) := by
  have hl : k < l.length := by have := h.len; omega
  have g : ∀ j (u : Value), (ev l[k])[j]? = some u → ∃ b o, A = some ⟨b, o, none⟩ ∧ w.cell? ⟨b, o + k * 4 + j, none⟩ = some u := fun j u hu => by
    have hj : j < 4 := by have := (List.getElem?_eq_some_iff.1 hu).1; rwa [ev_len] at this
    obtain ⟨b, o, e, hc⟩ := h.rd.2 (k * 4 + j) u (by rw [evs_at hl hj]; exact hu)
    exact ⟨b, o, e, by rw [Nat.add_assoc]; exact hc⟩
  obtain ⟨b, o, e, h0⟩ := g 0 _ rfl
  have g' : ∀ j (u : Value), (ev l[k])[j]? = some u → w.cell? ⟨b, o + k * 4 + j, none⟩ = some u := fun j u hu => by
    obtain ⟨b', o', e', hc⟩ := g j u hu
    rw [e] at e'
    injection e' with e'
    injection e' with e1 e2
    subst e1 e2
    exact hc
  exact ⟨b, o, e, l[k], List.getElem?_eq_getElem hl, h.fit _ (List.getElem_mem hl), h0, g' 1 _ rfl, g' 2 _ rfl, g' 3 _ rfl⟩

theorem rangeB_no0 {o n : Int} (h : ¬ 0 ≤ o) : rangeB o n = false := by simp [rangeB]; omega
theorem rangeB_no1 {o n : Int} (h : ¬ 1 ≤ n) : rangeB o n = false := by simp [rangeB]; omega
theorem rangeB_no2 {o n : Int} (h : ¬ n ≤ 1024 - o) : rangeB o n = false := by simp [rangeB]; omega
theorem rangeB_yes {o n : Int} (h0 : 0 ≤ o) (h1 : 1 ≤ n) (h : n ≤ 1024 - o) : rangeB o n = true := by simp [rangeB]; omega

section
variable (w : World)
set_option maxRecDepth 100000 in
theorem blocks_ (o n : Int) (ho : I64 o) (hn : I64 n) : Calls Try.prog 60 #[.int .i64 o, .int .i64 n] w fun e w' => e = .returned (.bool (rangeB o n)) ∧ w = w' := by
  unfold I64 at ho hn
  by_cases h0 : 0 ≤ o
  · by_cases h1 : 1 ≤ n
    · by_cases h2 : n ≤ 1024 - o
      · rw [rangeB_yes h0 h1 h2]
        go_enter Try.func60, Try.ntmps60
        go_wp2
        go_ret
        exact ⟨rfl, rfl⟩
      · rw [rangeB_no2 h2]
        go_enter Try.func60, Try.ntmps60
        go_wp2
        go_ret
        exact ⟨rfl, rfl⟩
    · rw [rangeB_no1 h1]
      go_enter Try.func60, Try.ntmps60
      go_wp2
      go_ret
      exact ⟨rfl, rfl⟩
  · rw [rangeB_no0 h0]
    go_enter Try.func60, Try.ntmps60
    go_wp2
    go_ret
    exact ⟨rfl, rfl⟩

theorem may_no {x : Ext} (h : rangeB x.off x.len = false) : x.may = false := by simp [Ext.may, h]
theorem may_no2 {x : Ext} (h : ¬ (0 ≤ x.phys ∧ x.phys ≤ 1099511627776 - x.len ∧ 0 ≤ x.birth ∧ x.birth ≤ 1099511627776)) : x.may = false := by
  rw [Bool.eq_false_iff]
  intro e
  simp only [Ext.may, Bool.and_eq_true, decide_eq_true_eq] at e
  exact h ⟨e.1.1.1.2, e.1.1.2, e.1.2, e.2⟩
theorem may_yes {x : Ext} (h : rangeB x.off x.len = true) (h0 : 0 ≤ x.phys) (h1 : x.phys ≤ 1099511627776 - x.len) (h2 : 0 ≤ x.birth) (h3 : x.birth ≤ 1099511627776) : x.may = true := by
  simp [Ext.may, h, h0, h1, h2, h3]
set_option maxRecDepth 100000 in
set_option maxHeartbeats 1000000 in
theorem may_ (x : Ext) (hx : Fit x) : Calls Try.prog 56 #[.agg #[.int .i64 x.off, .int .i64 x.len, .int .i64 x.phys, .int .i64 x.birth]] w fun e w' => e = .returned (.bool x.may) ∧ Below w.heap.size w w' := by
  obtain ⟨fo, fl, fp, fb⟩ := hx.all
  cases hr : rangeB x.off x.len with
  | false =>
    have Hm := Lib.hid (may_no hr)
    go_enter Try.func56, Try.ntmps56
    go_wp2_with fail
    refine (blocks_ _ x.off x.len fo fl).mono ?_
    rw [hr]
    rintro e w' ⟨rfl, rfl⟩
    go_wp2
    go_ret
    rw [Hm.out]
    exact ⟨rfl, (Below.refl _ _).alloc (Nat.le_refl _) _⟩
  | true =>
    have hr2 : 0 ≤ x.off ∧ 1 ≤ x.len ∧ x.len ≤ 1024 - x.off := by
      simp only [rangeB, Bool.and_eq_true, decide_eq_true_eq] at hr
      omega
    by_cases h0 : 0 ≤ x.phys
    · by_cases h1 : x.phys ≤ 1099511627776 - x.len
      · by_cases h2 : 0 ≤ x.birth
        · by_cases h3 : x.birth ≤ 1099511627776
          · have Hm := Lib.hid (may_yes hr h0 h1 h2 h3)
            go_enter Try.func56, Try.ntmps56
            go_wp2_with fail
            refine (blocks_ _ x.off x.len fo fl).mono ?_
            rw [hr]
            rintro e w' ⟨rfl, rfl⟩
            go_wp2
            go_ret
            rw [Hm.out]
            exact ⟨by simp [h3], (Below.refl _ _).alloc (Nat.le_refl _) _⟩
          · have Hm := Lib.hid (may_no2 (x := x) (by omega))
            go_enter Try.func56, Try.ntmps56
            go_wp2_with fail
            refine (blocks_ _ x.off x.len fo fl).mono ?_
            rw [hr]
            rintro e w' ⟨rfl, rfl⟩
            go_wp2
            go_ret
            rw [Hm.out]
            exact ⟨by simp [h3], (Below.refl _ _).alloc (Nat.le_refl _) _⟩
        · have Hm := Lib.hid (may_no2 (x := x) (by omega))
          go_enter Try.func56, Try.ntmps56
          go_wp2_with fail
          refine (blocks_ _ x.off x.len fo fl).mono ?_
          rw [hr]
          rintro e w' ⟨rfl, rfl⟩
          go_wp2
          go_ret
          rw [Hm.out]
          exact ⟨rfl, (Below.refl _ _).alloc (Nat.le_refl _) _⟩
      · have Hm := Lib.hid (may_no2 (x := x) (by omega))
        go_enter Try.func56, Try.ntmps56
        go_wp2_with fail
        refine (blocks_ _ x.off x.len fo fl).mono ?_
        rw [hr]
        rintro e w' ⟨rfl, rfl⟩
        go_wp2
        go_ret
        rw [Hm.out]
        exact ⟨rfl, (Below.refl _ _).alloc (Nat.le_refl _) _⟩
    · have Hm := Lib.hid (may_no2 (x := x) (by omega))
      go_enter Try.func56, Try.ntmps56
      go_wp2_with fail
      refine (blocks_ _ x.off x.len fo fl).mono ?_
      rw [hr]
      rintro e w' ⟨rfl, rfl⟩
      go_wp2
      go_ret
      rw [Hm.out]
      exact ⟨rfl, (Below.refl _ _).alloc (Nat.le_refl _) _⟩

theorem one_no0 {a b : Ext} (h : ¬ a.off + a.len = b.off) : oneB a b = false := by simp [oneB, h]
theorem one_no1 {a b : Ext} (h : ¬ a.phys + a.len = b.phys) : oneB a b = false := by simp [oneB, h]
theorem one_no2 {a b : Ext} (h : ¬ a.birth = b.birth) : oneB a b = false := by simp [oneB, h]
theorem one_yes {a b : Ext} (h0 : a.off + a.len = b.off) (h1 : a.phys + a.len = b.phys) (h2 : a.birth = b.birth) : oneB a b = true := by simp [oneB, h0, h1, h2]
/-- What 'one' asks of what is handed in: no sum goes over. -/
structure Near (a b : Ext) : Prop where
  fa : Fit a
  fb : Fit b
  s1 : I64 (a.off + a.len)
  s2 : I64 (a.phys + a.len)
theorem near_of {a b : Ext} (ha : a.may = true) (hb : Fit b) : Near a b := by
  have := may_len ha
  refine ⟨⟨?_, ?_, ?_, ?_⟩, hb, ?_, ?_⟩ <;> unfold I64 <;> omega
theorem fit_of {a : Ext} (ha : a.may = true) : Fit a := by
  have := may_len ha
  refine ⟨?_, ?_, ?_, ?_⟩ <;> unfold I64 <;> omega
set_option maxRecDepth 100000 in
set_option maxHeartbeats 1000000 in
theorem one_ (a b : Ext) (h : Near a b) : Calls Try.prog 46 #[.agg #[.int .i64 a.off, .int .i64 a.len, .int .i64 a.phys, .int .i64 a.birth], .agg #[.int .i64 b.off, .int .i64 b.len, .int .i64 b.phys, .int .i64 b.birth]] w fun e w' => e = .returned (.bool (oneB a b)) ∧ Below w.heap.size w w' := by
  obtain ⟨fo, fl, fp, fb⟩ := h.fa.all
  obtain ⟨go, gl, gp, gb⟩ := h.fb.all
  have s1 := h.s1
  have s2 := h.s2
  unfold I64 at s1 s2
  have w1 : IntKind.i64.wrap (a.off + a.len) = a.off + a.len := by rw [IntKind.wrap_i64]; omega
  have w2 : IntKind.i64.wrap (a.phys + a.len) = a.phys + a.len := by rw [IntKind.wrap_i64]; omega
  have hB : Below w.heap.size w ((w.alloc (.cells #[.int .i64 a.off, .int .i64 a.len, .int .i64 a.phys, .int .i64 a.birth] 57)).alloc (.cells #[.int .i64 b.off, .int .i64 b.len, .int .i64 b.phys, .int .i64 b.birth] 57)) :=
    ((Below.refl _ _).alloc (Nat.le_refl _) _).alloc (by simp) _
  by_cases h0 : a.off + a.len = b.off
  · have t0 : (a.off + a.len == b.off) = true := by simpa using h0
    by_cases h1 : a.phys + a.len = b.phys
    · have t1 : (a.phys + a.len == b.phys) = true := by simpa using h1
      by_cases h2 : a.birth = b.birth
      · have t2 : (a.birth == b.birth) = true := by simpa using h2
        have Hm := Lib.hid (one_yes h0 h1 h2)
        clear h0 h1 h2
        go_enter Try.func46, Try.ntmps46
        go_wp2
        go_ret
        rw [Hm.out]
        exact ⟨rfl, hB⟩
      · have t2 : (a.birth == b.birth) = false := by simpa using h2
        have Hm := Lib.hid (one_no2 h2)
        clear h0 h1 h2
        go_enter Try.func46, Try.ntmps46
        go_wp2
        go_ret
        rw [Hm.out]
        exact ⟨rfl, hB⟩
    · have t1 : (a.phys + a.len == b.phys) = false := by simpa using h1
      have Hm := Lib.hid (one_no1 h1)
      clear h0 h1
      go_enter Try.func46, Try.ntmps46
      go_wp2
      go_ret
      rw [Hm.out]
      exact ⟨rfl, hB⟩
  · have t0 : (a.off + a.len == b.off) = false := by simpa using h0
    have Hm := Lib.hid (one_no0 h0)
    clear h0
    go_enter Try.func46, Try.ntmps46
    go_wp2
    go_ret
    rw [Hm.out]
    exact ⟨rfl, hB⟩
end
end Go.Proofs.Ytfdfjnepfgabaaa
