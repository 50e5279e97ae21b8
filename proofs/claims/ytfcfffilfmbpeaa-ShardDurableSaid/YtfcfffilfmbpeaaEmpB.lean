/- XEmpA, XEmpB. -/
import Derived.Test.YtfcfffilfmbpeaaEmpM
import Derived.Test.YtfcfffilfmbpeaaShp
import Derived.BigQuiet
import Derived.Lib.MinMax
import Derived.Deep.RegionHeld3
set_option linter.all false
namespace Go.Proofs.Ytfcfffilfmbpeaa
open Go.RowKit

def I64 (z : Int) : Prop := -9223372036854775808 ≤ z ∧ z ≤ 9223372036854775807
/-- An extent's numbers are ints. -/
structure Fit (x : Ext) : Prop where
  off : I64 x.off
  len : I64 x.len
  phys : I64 x.phys
  birth : I64 x.birth
theorem Fit.all {x : Ext} (h : Fit x) : (-9223372036854775808 ≤ x.off ∧ x.off ≤ 9223372036854775807) ∧ (-9223372036854775808 ≤ x.len ∧ x.len ≤ 9223372036854775807) ∧ (-9223372036854775808 ≤ x.phys ∧ x.phys ≤ 9223372036854775807) ∧ (-9223372036854775808 ≤ x.birth ∧ x.birth ≤ 9223372036854775807) := ⟨h.off, h.len, h.phys, h.birth⟩
def ev (x : Ext) : List Value := [.int .i64 x.off, .int .i64 x.len, .int .i64 x.phys, .int .i64 x.birth]
def ea (x : Ext) : Array Value := #[.int .i64 x.off, .int .i64 x.len, .int .i64 x.phys, .int .i64 x.birth]
def evs (l : List Ext) : List Value := l.flatMap ev
theorem ea_list (x : Ext) : (ea x).toList = ev x := rfl
theorem ev_len (x : Ext) : (ev x).length = 4 := rfl
theorem evs_nil : evs [] = [] := rfl
theorem evs_cons (x : Ext) (l : List Ext) : evs (x :: l) = ev x ++ evs l := rfl
theorem evs_app (l l' : List Ext) : evs (l ++ l') = evs l ++ evs l' := by simp [evs]
theorem evs_len : ∀ l : List Ext, (evs l).length = l.length * 4
  | [] => rfl
  | x :: l => by rw [evs_cons, List.length_append, evs_len l, ev_len, List.length_cons]; omega
theorem evs_at : ∀ {l : List Ext} {k : Nat} (h : k < l.length) {j : Nat} (_ : j < 4), (evs l)[k * 4 + j]? = (ev l[k])[j]?
  | x :: l, 0, _, j, hj => by
    rw [evs_cons, List.getElem?_append_left (by rw [ev_len]; omega)]
    simp
  | x :: l, k + 1, h, j, hj => by
    rw [evs_cons, List.getElem?_append_right (by rw [ev_len]; omega), ev_len, show (k + 1) * 4 + j - 4 = k * 4 + j by omega, evs_at (l := l) (by simpa using h) hj]
    simp
/-- The slice value '.slice A n _' reads in w as the extents l. -/
structure Es (w : World) (A : Option Addr) (n : Nat) (l : List Ext) : Prop where
  rd : Rd w A 4 n (evs l)
  fit : ∀ x ∈ l, Fit x
theorem Es.len {w : World} {A : Option Addr} {n : Nat} {l : List Ext} (h : Es w A n l) : n = l.length := by have := h.rd.1; rw [evs_len] at this; omega
theorem Es.below {w w' : World} {A : Option Addr} {n : Nat} {l : List Ext} (h : Es w A n l) (hb : Below w.heap.size w w') : Es w' A n l := ⟨h.rd.below hb, h.fit⟩
theorem Es.alloc {w : World} {A : Option Addr} {n : Nat} {l : List Ext} (h : Es w A n l) (o : Obj) : Es (w.alloc o) A n l := ⟨h.rd.alloc o, h.fit⟩
theorem Es.drew {w : World} {A : Option Addr} {n : Nat} {l : List Ext} (h : Es w A n l) : Es w.drew A n l := ⟨h.rd, h.fit⟩
theorem Es.drewN {w : World} {A : Option Addr} {n : Nat} {l : List Ext} (h : Es w A n l) (k : Nat) : Es (w.drewN k) A n l := ⟨h.rd, h.fit⟩
theorem Es.nil {w : World} {A : Option Addr} : Es w A 0 [] := ⟨Rd.nil, by simp⟩
theorem Es.grown {w w' : World} {row : Option Nat} {A : Option Addr} {n : Nat} {l : List Ext} (h : Es w A n l) (hg : w.grownBy w' row) (hne : ∀ a, A = some a → some a.block ≠ row) : Es w' A n l := ⟨h.rd.grown hg hne, h.fit⟩
theorem Es.zero {w : World} {A : Option Addr} {n : Nat} {l : List Ext} (h : Es w A n l) (hA : A = none) : n = 0 := by
  cases l with
  | nil => have := h.len; simpa using this
  | cons x l => obtain ⟨b, o, e, _⟩ := h.rd.2 0 _ rfl; rw [hA] at e; cases e
/-- The cells of extent k. -/
theorem Es.at_ {w : World} {A : Option Addr} {n : Nat} {l : List Ext} (h : Es w A n l) {k : Nat} (hk : k < n) :
    ∃ b o, A = some ⟨b, o, none⟩ ∧ ∃ x, l[k]? = some x ∧ Fit x ∧ w.cell? ⟨b, o + k * 4, none⟩ = some (.int .i64 x.off) ∧ w.cell? ⟨b, o + k * 4 + 1, none⟩ = some (.int .i64 x.len) ∧ w.cell? ⟨b, o + k * 4 + 2, none⟩ = some (.int .i64 x.phys) ∧ w.cell? ⟨b, o + k * 4 + 3, none⟩ = some (.int .i64 x.birth) := by
  have hl : k < l.length := by have := h.len; omega
  have g : ∀ j (u : Value), (ev l[k])[j]? = some u → ∃ b o, A = some ⟨b, o, none⟩ ∧ w.cell? ⟨b, o + k * 4 + j, none⟩ = some u := fun j u hu => by
    have hj : j < 4 := by have := (List.getElem?_eq_some_iff.1 hu).1; rwa [ev_len] at this
    obtain ⟨b, o, e, hc⟩ := h.rd.2 (k * 4 + j) u (by rw [evs_at hl hj]; exact hu)
    exact ⟨b, o, e, by rw [Nat.add_assoc]; exact hc⟩
  obtain ⟨b, o, e, h0⟩ := g 0 _ rfl
  have g' : ∀ j (u : Value), (ev l[k])[j]? = some u → w.cell? ⟨b, o + k * 4 + j, none⟩ = some u := fun j u hu => by
    obtain ⟨b', o', e', hc⟩ := g j u hu
    rw [e] at e'
    injection e' with e'
    injection e' with e1 e2
    subst e1 e2
    exact hc
  exact ⟨b, o, e, l[k], List.getElem?_eq_getElem hl, h.fit _ (List.getElem_mem hl), h0, g' 1 _ rfl, g' 2 _ rfl, g' 3 _ rfl⟩

theorem rangeB_no0 {o n : Int} (h : ¬ 0 ≤ o) : rangeB o n = false := by simp [rangeB]; omega
theorem rangeB_no1 {o n : Int} (h : ¬ 1 ≤ n) : rangeB o n = false := by simp [rangeB]; omega
theorem rangeB_no2 {o n : Int} (h : ¬ n ≤ 1024 - o) : rangeB o n = false := by simp [rangeB]; omega
theorem rangeB_yes {o n : Int} (h0 : 0 ≤ o) (h1 : 1 ≤ n) (h : n ≤ 1024 - o) : rangeB o n = true := by simp [rangeB]; omega

section
variable (w : World)
set_option maxRecDepth 100000 in
theorem blocks_ (o n : Int) (ho : I64 o) (hn : I64 n) : Calls Try.prog 78 #[.int .i64 o, .int .i64 n] w fun e w' => e = .returned (.bool (rangeB o n)) ∧ w = w' := by
  unfold I64 at ho hn
  by_cases h0 : 0 ≤ o
  · by_cases h1 : 1 ≤ n
    · by_cases h2 : n ≤ 1024 - o
      · rw [rangeB_yes h0 h1 h2]
        go_enter Try.func78, Try.ntmps78
        go_wp2
        go_ret
        exact ⟨rfl, rfl⟩
      · rw [rangeB_no2 h2]
        go_enter Try.func78, Try.ntmps78
        go_wp2
        go_ret
        exact ⟨rfl, rfl⟩
    · rw [rangeB_no1 h1]
      go_enter Try.func78, Try.ntmps78
      go_wp2
      go_ret
      exact ⟨rfl, rfl⟩
  · rw [rangeB_no0 h0]
    go_enter Try.func78, Try.ntmps78
    go_wp2
    go_ret
    exact ⟨rfl, rfl⟩

theorem may_no {x : Ext} (h : rangeB x.off x.len = false) : x.may = false := by simp [Ext.may, h]
theorem may_no2 {x : Ext} (h : ¬ (0 ≤ x.phys ∧ x.phys ≤ 1099511627776 - x.len ∧ 0 ≤ x.birth ∧ x.birth ≤ 1099511627776)) : x.may = false := by
  rw [Bool.eq_false_iff]
  intro e
  simp only [Ext.may, Bool.and_eq_true, decide_eq_true_eq] at e
  exact h ⟨e.1.1.1.2, e.1.1.2, e.1.2, e.2⟩
theorem may_yes {x : Ext} (h : rangeB x.off x.len = true) (h0 : 0 ≤ x.phys) (h1 : x.phys ≤ 1099511627776 - x.len) (h2 : 0 ≤ x.birth) (h3 : x.birth ≤ 1099511627776) : x.may = true := by
  simp [Ext.may, h, h0, h1, h2, h3]
set_option maxRecDepth 100000 in
set_option maxHeartbeats 1000000 in
theorem may_ (x : Ext) (hx : Fit x) : Calls Try.prog 81 #[.agg #[.int .i64 x.off, .int .i64 x.len, .int .i64 x.phys, .int .i64 x.birth]] w fun e w' => e = .returned (.bool x.may) ∧ Below w.heap.size w w' := by
  obtain ⟨fo, fl, fp, fb⟩ := hx.all
  cases hr : rangeB x.off x.len with
  | false =>
    have Hm := Lib.hid (may_no hr)
    go_enter Try.func81, Try.ntmps81
    go_wp2_with fail
    refine (blocks_ _ x.off x.len fo fl).mono ?_
    rw [hr]
    rintro e w' ⟨rfl, rfl⟩
    go_wp2
    go_ret
    rw [Hm.out]
    exact ⟨rfl, (Below.refl _ _).alloc (Nat.le_refl _) _⟩
  | true =>
    have hr2 : 0 ≤ x.off ∧ 1 ≤ x.len ∧ x.len ≤ 1024 - x.off := by
      simp only [rangeB, Bool.and_eq_true, decide_eq_true_eq] at hr
      omega
    by_cases h0 : 0 ≤ x.phys
    · by_cases h1 : x.phys ≤ 1099511627776 - x.len
      · by_cases h2 : 0 ≤ x.birth
        · by_cases h3 : x.birth ≤ 1099511627776
          · have Hm := Lib.hid (may_yes hr h0 h1 h2 h3)
            go_enter Try.func81, Try.ntmps81
            go_wp2_with fail
            refine (blocks_ _ x.off x.len fo fl).mono ?_
            rw [hr]
            rintro e w' ⟨rfl, rfl⟩
            go_wp2
            go_ret
            rw [Hm.out]
            exact ⟨by simp [h3], (Below.refl _ _).alloc (Nat.le_refl _) _⟩
          · have Hm := Lib.hid (may_no2 (x := x) (by omega))
            go_enter Try.func81, Try.ntmps81
            go_wp2_with fail
            refine (blocks_ _ x.off x.len fo fl).mono ?_
            rw [hr]
            rintro e w' ⟨rfl, rfl⟩
            go_wp2
            go_ret
            rw [Hm.out]
            exact ⟨by simp [h3], (Below.refl _ _).alloc (Nat.le_refl _) _⟩
        · have Hm := Lib.hid (may_no2 (x := x) (by omega))
          go_enter Try.func81, Try.ntmps81
          go_wp2_with fail
          refine (blocks_ _ x.off x.len fo fl).mono ?_
          rw [hr]
          rintro e w' ⟨rfl, rfl⟩
          go_wp2
          go_ret
          rw [Hm.out]
          exact ⟨rfl, (Below.refl _ _).alloc (Nat.le_refl _) _⟩
      · have Hm := Lib.hid (may_no2 (x := x) (by omega))
        go_enter Try.func81, Try.ntmps81
        go_wp2_with fail
        refine (blocks_ _ x.off x.len fo fl).mono ?_
        rw [hr]
        rintro e w' ⟨rfl, rfl⟩
        go_wp2
        go_ret
        rw [Hm.out]
        exact ⟨rfl, (Below.refl _ _).alloc (Nat.le_refl _) _⟩
    · have Hm := Lib.hid (may_no2 (x := x) (by omega))
      go_enter Try.func81, Try.ntmps81
      go_wp2_with fail
      refine (blocks_ _ x.off x.len fo fl).mono ?_
      rw [hr]
      rintro e w' ⟨rfl, rfl⟩
      go_wp2
      go_ret
      rw [Hm.out]
      exact ⟨rfl, (Below.refl _ _).alloc (Nat.le_refl _) _⟩

theorem one_no0 {a b : Ext} (h : ¬ a.off + a.len = b.off) : oneB a b = false := by simp [oneB, h]
theorem one_no1 {a b : Ext} (h : ¬ a.phys + a.len = b.phys) : oneB a b = false := by simp [oneB, h]
theorem one_no2 {a b : Ext} (h : ¬ a.birth = b.birth) : oneB a b = false := by simp [oneB, h]
theorem one_yes {a b : Ext} (h0 : a.off + a.len = b.off) (h1 : a.phys + a.len = b.phys) (h2 : a.birth = b.birth) : oneB a b = true := by simp [oneB, h0, h1, h2]
/-- What 'one' asks of what is handed in: no sum goes over. -/
structure Near (a b : Ext) : Prop where
  fa : Fit a
  fb : Fit b
  s1 : I64 (a.off + a.len)
  s2 : I64 (a.phys + a.len)
theorem near_of {a b : Ext} (ha : a.may = true) (hb : Fit b) : Near a b := by
  have := may_len ha
  refine ⟨⟨?_, ?_, ?_, ?_⟩, hb, ?_, ?_⟩ <;> unfold I64 <;> omega
theorem fit_of {a : Ext} (ha : a.may = true) : Fit a := by
  have := may_len ha
  refine ⟨?_, ?_, ?_, ?_⟩ <;> unfold I64 <;> omega
set_option maxRecDepth 100000 in
set_option maxHeartbeats 1000000 in
theorem one_ (a b : Ext) (h : Near a b) : Calls Try.prog 75 #[.agg #[.int .i64 a.off, .int .i64 a.len, .int .i64 a.phys, .int .i64 a.birth], .agg #[.int .i64 b.off, .int .i64 b.len, .int .i64 b.phys, .int .i64 b.birth]] w fun e w' => e = .returned (.bool (oneB a b)) ∧ Below w.heap.size w w' := by
  obtain ⟨fo, fl, fp, fb⟩ := h.fa.all
  obtain ⟨go, gl, gp, gb⟩ := h.fb.all
  have s1 := h.s1
  have s2 := h.s2
  unfold I64 at s1 s2
  have w1 : IntKind.i64.wrap (a.off + a.len) = a.off + a.len := by rw [IntKind.wrap_i64]; omega
  have w2 : IntKind.i64.wrap (a.phys + a.len) = a.phys + a.len := by rw [IntKind.wrap_i64]; omega
  have hB : Below w.heap.size w ((w.alloc (.cells #[.int .i64 a.off, .int .i64 a.len, .int .i64 a.phys, .int .i64 a.birth] 77)).alloc (.cells #[.int .i64 b.off, .int .i64 b.len, .int .i64 b.phys, .int .i64 b.birth] 77)) :=
    ((Below.refl _ _).alloc (Nat.le_refl _) _).alloc (by simp) _
  by_cases h0 : a.off + a.len = b.off
  · have t0 : (a.off + a.len == b.off) = true := by simpa using h0
    by_cases h1 : a.phys + a.len = b.phys
    · have t1 : (a.phys + a.len == b.phys) = true := by simpa using h1
      by_cases h2 : a.birth = b.birth
      · have t2 : (a.birth == b.birth) = true := by simpa using h2
        have Hm := Lib.hid (one_yes h0 h1 h2)
        clear h0 h1 h2
        go_enter Try.func75, Try.ntmps75
        go_wp2
        go_ret
        rw [Hm.out]
        exact ⟨rfl, hB⟩
      · have t2 : (a.birth == b.birth) = false := by simpa using h2
        have Hm := Lib.hid (one_no2 h2)
        clear h0 h1 h2
        go_enter Try.func75, Try.ntmps75
        go_wp2
        go_ret
        rw [Hm.out]
        exact ⟨rfl, hB⟩
    · have t1 : (a.phys + a.len == b.phys) = false := by simpa using h1
      have Hm := Lib.hid (one_no1 h1)
      clear h0 h1
      go_enter Try.func75, Try.ntmps75
      go_wp2
      go_ret
      rw [Hm.out]
      exact ⟨rfl, hB⟩
  · have t0 : (a.off + a.len == b.off) = false := by simpa using h0
    have Hm := Lib.hid (one_no0 h0)
    clear h0
    go_enter Try.func75, Try.ntmps75
    go_wp2
    go_ret
    rw [Hm.out]
    exact ⟨rfl, hB⟩
end
end Go.Proofs.Ytfcfffilfmbpeaa

set_option linter.all false
namespace Go.Proofs.Ytfcfffilfmbpeaa
open Go.RowKit

theorem drop_of {α : Type} {l : List α} {k : Nat} {x : α} (h : l[k]? = some x) : l.drop k = x :: l.drop (k + 1) := by
  obtain ⟨hk, rfl⟩ := List.getElem?_eq_some_iff.1 h
  exact List.drop_eq_getElem_cons hk
theorem list_nomay {lo : Int} {x : Ext} {r : List Ext} {b : Bool} (h : listFrom lo (x :: r) = b) (hx : x.may = false) : b = false := by
  rw [← h]; simp [listFrom, hx]
theorem list_noend {lo : Int} {x : Ext} {r : List Ext} {b : Bool} (h : listFrom lo (x :: r) = b) (hx : x.off < lo) : b = false := by
  rw [← h]; simp [listFrom]; intro _ h2; omega
theorem list_next {lo : Int} {x : Ext} {r : List Ext} {b : Bool} (h : listFrom lo (x :: r) = b) (hx : x.may = true) (hl : ¬ x.off < lo) : listFrom (x.off + x.len) r = b := by
  rw [← h]
  have : lo ≤ x.off := by omega
  simp [listFrom, hx, this]
theorem list_done {α : Type} {l : List α} {k n : Nat} (hn : n = l.length) (h : n ≤ k) : l.drop k = [] := List.drop_of_length_le (by omega)

theorem list_short : ∀ {l : List Ext} {lo : Int}, listFrom lo l = true → lo ≤ 1024 → lo + (l.length : Int) ≤ 1024
  | [], lo, _, h => by simpa using h
  | x :: l, lo, h, hl => by
    rw [listFrom_cons] at h
    have := may_len h.1
    have := list_short h.2.2 (by omega)
    simp only [List.length_cons]
    omega
section
variable (w : World)
set_option maxRecDepth 100000 in
set_option maxHeartbeats 1000000 in
theorem list_ (A : Option Addr) (n c : Nat) (l : List Ext) (h : Es w A n l) (hn : n ≤ 9223372036854775807) :
    Calls Try.prog 74 #[.slice A n c] w fun e w' => e = .returned (.bool (listB l)) ∧ Below w.heap.size w w' := by
  have Hl := Lib.hid h.len
  go_enter Try.func74, Try.ntmps74
  go_wp2_with fail
  go_loopw [3, 8] (fun ev iv wr => ∃ (k : Nat) (lo : Int), k ≤ n ∧ iv = .int .i64 (k : Int) ∧ ev = .int .i64 lo ∧ 0 ≤ lo ∧ lo ≤ 1024 ∧ listFrom lo (l.drop k) = listB l ∧ Below w.heap.size w wr) (fun _ iv _ => n - (intOf iv).toNat)
  case atStart => exact ⟨0, 0, Nat.zero_le _, rfl, rfl, by omega, by omega, rfl, Below.refl _ _⟩
  case round =>
    obtain ⟨k, lo, hk, rfl, rfl, hl0, hl1, hL, hb⟩ := hrel
    by_cases hlt : k < n
    · have hil : (k : Int) < (n : Int) := by omega
      obtain ⟨b, o, rfl, x, hx, fx, c0, c1, c2, c3⟩ := (h.below hb).at_ hlt
      obtain ⟨fo, fl, fp, fb⟩ := fx.all
      rw [drop_of hx] at hL
      have hac := Blk.new wr 77 #[.int .i64 x.off, .int .i64 x.len, .int .i64 x.phys, .int .i64 x.birth] rfl
      have hba : Below w.heap.size w (wr.alloc (.cells #[.int .i64 x.off, .int .i64 x.len, .int .i64 x.phys, .int .i64 x.birth] 77)) := hb.alloc hb.size _
      clear h hb
      cases hm : x.may with
      | false =>
        have HB := Lib.hid (list_nomay hL hm)
        clear hL
        go_wp2_with fail
        refine (may_ _ x fx).mono ?_
        rw [hm]
        rintro e w' ⟨rfl, hb'⟩
        go_wp2
        go_ret
        rw [HB.out]
        exact ⟨rfl, below_step hba hb' (by omega)⟩
      | true =>
        have hml := may_len hm
        by_cases he : x.off < lo
        · have HB := Lib.hid (list_noend hL he)
          clear hL
          go_wp2_with fail
          refine (may_ _ x fx).mono ?_
          rw [hm]
          rintro e w' ⟨rfl, hb'⟩
          have d0 := (hac.keep hb').cell (j := 0) (u := .int .i64 x.off) rfl
          go_wp2
          go_ret
          rw [HB.out]
          exact ⟨rfl, below_step hba hb' (by omega)⟩
        · have HL := Lib.hid (list_next hL hm he)
          clear hL
          go_wp2_with fail
          refine (may_ _ x fx).mono ?_
          rw [hm]
          rintro e w' ⟨rfl, hb'⟩
          have d0 := (hac.keep hb').cell (j := 0) (u := .int .i64 x.off) rfl
          have d1 := (hac.keep hb').cell (j := 1) (u := .int .i64 x.len) rfl
          go_wp2
          go_roundw
          case rel => exact ⟨k + 1, x.off + x.len, by omega, by go_num, rfl, by omega, by omega, HL.out, below_step hba hb' (by omega)⟩
          case measure => simp [intOf]; omega
    · have hin : (n : Int) ≤ (k : Int) := by omega
      have hd : l.drop k = [] := list_done Hl.out (by omega)
      rw [hd] at hL
      have HB := Lib.hid hL
      clear hL hd
      go_wp2
      go_ret
      rw [← HB.out]
      exact ⟨rfl, hb⟩

theorem below_undrew {B : Nat} {a w : World} (h : Below B a.drew w) : Below B a w := ⟨h.os, h.tape, h.output, h.size, h.block⟩
theorem alone_end {l : List Ext} {k n : Nat} (hn : n = l.length) (h : n ≤ k) : aloneB (l.drop (k - 1)) = true := by
  rcases Nat.eq_zero_or_pos k with h0 | h0
  · subst h0
    have : l = [] := List.eq_nil_of_length_eq_zero (by omega)
    subst this; rfl
  · cases hd : l.drop (k - 1) with
    | nil => rfl
    | cons x r =>
      have hl : (l.drop (k - 1)).length = l.length - (k - 1) := List.length_drop
      rw [hd, List.length_cons] at hl
      have : r = [] := List.eq_nil_of_length_eq_zero (by omega)
      subst this; rfl
theorem alone_step {y x : Ext} {r : List Ext} : aloneB (y :: x :: r) = (!oneB y x && aloneB (x :: r)) := rfl
set_option maxRecDepth 100000 in
set_option maxHeartbeats 2000000 in
theorem right_ (A : Option Addr) (n c : Nat) (l : List Ext) (h : Es w A n l) (hn : n ≤ 9223372036854775807) :
    Calls Try.prog 60 #[.slice A n c] w fun e w' => e = .returned (.bool (rightB l)) ∧ Below w.heap.size w w' := by
  have Hl := Lib.hid h.len
  cases hL : listB l with
  | false =>
    have HR := Lib.hid (show rightB l = false by simp [rightB, hL])
    go_enter Try.func60, Try.ntmps60
    go_wp2_with fail
    refine (list_ _ A n c l h hn).mono ?_
    rw [hL]
    rintro e w' ⟨rfl, hb'⟩
    go_wp2
    go_ret
    rw [HR.out]
    exact ⟨rfl, hb'⟩
  | true =>
    have hmay : ∀ x ∈ l, x.may = true := fun x hx => (listFrom_mem (lo := 0) hL x hx).1
    have HA := Lib.hid (show rightB l = aloneB l by simp [rightB, hL])
    go_enter Try.func60, Try.ntmps60
    go_wp2_with fail
    refine (list_ _ A n c l h hn).mono ?_
    rw [hL]
    rintro e w1 ⟨rfl, hb1⟩
    go_wp2_with fail
    go_loopw [9] (fun iv wr => ∃ k : Nat, k ≤ n ∧ iv = .int .i64 (k : Int) ∧ aloneB (l.drop (k - 1)) = aloneB l ∧ Below w.heap.size w wr) (fun iv _ => n - (intOf iv).toNat)
    case atStart => exact ⟨0, Nat.zero_le _, rfl, rfl, hb1⟩
    case round =>
      obtain ⟨k, hk, rfl, hL2, hb⟩ := hrel
      by_cases hlt : k < n
      · have hil : (k : Int) < (n : Int) := by omega
        rcases Nat.eq_zero_or_pos k with h0 | h0
        · subst h0
          have HL := Lib.hid hL2
          clear hL2
          have hg : decide ((0 : Int) < ((0 : Nat) : Int)) = false := by decide
          go_wp2_with fail
          go_quiet (fail)
          go_wp2
          go_roundw
          case rel => exact ⟨1, by omega, by go_num, HL.out, below_drewN hb _⟩
          case measure => simp [intOf]; omega
        · obtain ⟨m, hkm⟩ : ∃ m, k = m + 1 := ⟨k - 1, by omega⟩
          obtain ⟨b, o, rfl, y, hy, fy, c0, c1, c2, c3⟩ := (h.below hb).at_ (k := m) (by omega)
          obtain ⟨b', o', e', x, hx, fx, d0, d1, d2, d3⟩ := (h.below hb).at_ hlt
          injection e' with e'
          injection e' with e1 e2
          subst e1 e2
          have hys := hmay y (List.mem_of_getElem? hy)
          have hdr : l.drop (k - 1) = y :: x :: l.drop (k + 1) := by
            rw [show k - 1 = m by omega, drop_of hy, ← hkm, drop_of hx]
          rw [hdr, alone_step, ← drop_of hx] at hL2
          have hpos : (0 : Int) < (k : Int) := by omega
          have hw1 : IntKind.i64.wrap ((k : Int) - 1) = (m : Int) := by rw [IntKind.wrap_i64]; omega
          have hm0 : (0 : Int) ≤ (m : Int) := by omega
          have hmn : (m : Int) < (n : Int) := by omega
          have hk0 : (0 : Int) ≤ (k : Int) := by omega
          have Hkm := Lib.hid hkm
          clear hkm
          have hnear := near_of hys fx
          clear h
          cases ho : oneB y x with
          | true =>
            have HB := Lib.hid (show aloneB l = false by rw [← hL2, ho]; rfl)
            clear hL2 hdr
            go_wp2_with fail
            go_region_held3 (fun w' => w'.cell? ⟨b, o + m * 4, none⟩ = some (.int .i64 y.off) ∧ w'.cell? ⟨b, o + m * 4 + 1, none⟩ = some (.int .i64 y.len) ∧ w'.cell? ⟨b, o + m * 4 + 2, none⟩ = some (.int .i64 y.phys) ∧ w'.cell? ⟨b, o + m * 4 + 3, none⟩ = some (.int .i64 y.birth) ∧
                w'.cell? ⟨b, o + k * 4, none⟩ = some (.int .i64 x.off) ∧ w'.cell? ⟨b, o + k * 4 + 1, none⟩ = some (.int .i64 x.len) ∧ w'.cell? ⟨b, o + k * 4 + 2, none⟩ = some (.int .i64 x.phys) ∧ w'.cell? ⟨b, o + k * 4 + 3, none⟩ = some (.int .i64 x.birth))
              (first | go_keep | exact ⟨c0, c1, c2, c3, d0, d1, d2, d3⟩ | exact ⟨(hb2.cell (cell_lt c0)).trans c0, (hb2.cell (cell_lt c1)).trans c1, (hb2.cell (cell_lt c2)).trans c2, (hb2.cell (cell_lt c3)).trans c3, (hb2.cell (cell_lt d0)).trans d0, (hb2.cell (cell_lt d1)).trans d1, (hb2.cell (cell_lt d2)).trans d2, (hb2.cell (cell_lt d3)).trans d3⟩)
              (first
                | (go_at_call 75; refine (one_ _ y x hnear).mono ?_; rw [ho]; rintro e w2 ⟨rfl, hb2⟩))
            go_wp2
            go_ret
            rw [HA.out, HB.out]
            exact ⟨rfl, below_step hb (below_undrew hb2) (Nat.le_refl _)⟩
          | false =>
            have HL := Lib.hid (show aloneB (l.drop (k + 1 - 1)) = aloneB l by rw [← hL2, ho]; simp)
            clear hL2 hdr
            go_wp2_with fail
            go_region_held3 (fun w' => w'.cell? ⟨b, o + m * 4, none⟩ = some (.int .i64 y.off) ∧ w'.cell? ⟨b, o + m * 4 + 1, none⟩ = some (.int .i64 y.len) ∧ w'.cell? ⟨b, o + m * 4 + 2, none⟩ = some (.int .i64 y.phys) ∧ w'.cell? ⟨b, o + m * 4 + 3, none⟩ = some (.int .i64 y.birth) ∧
                w'.cell? ⟨b, o + k * 4, none⟩ = some (.int .i64 x.off) ∧ w'.cell? ⟨b, o + k * 4 + 1, none⟩ = some (.int .i64 x.len) ∧ w'.cell? ⟨b, o + k * 4 + 2, none⟩ = some (.int .i64 x.phys) ∧ w'.cell? ⟨b, o + k * 4 + 3, none⟩ = some (.int .i64 x.birth))
              (first | go_keep | exact ⟨c0, c1, c2, c3, d0, d1, d2, d3⟩ | exact ⟨(hb2.cell (cell_lt c0)).trans c0, (hb2.cell (cell_lt c1)).trans c1, (hb2.cell (cell_lt c2)).trans c2, (hb2.cell (cell_lt c3)).trans c3, (hb2.cell (cell_lt d0)).trans d0, (hb2.cell (cell_lt d1)).trans d1, (hb2.cell (cell_lt d2)).trans d2, (hb2.cell (cell_lt d3)).trans d3⟩)
              (first
                | (go_at_call 75; refine (one_ _ y x hnear).mono ?_; rw [ho]; rintro e w2 ⟨rfl, hb2⟩))
            go_wp2
            go_roundw
            case rel => exact ⟨k + 1, by omega, by go_num, HL.out, below_step hb (below_undrew hb2) (Nat.le_refl _)⟩
            case measure => simp [intOf]; omega
      · have hin : (n : Int) ≤ (k : Int) := by omega
        have HB := Lib.hid (hL2.symm.trans (alone_end Hl.out (by omega)))
        clear hL2
        go_wp2
        go_ret
        rw [HA.out, HB.out]
        exact ⟨rfl, hb⟩
end
end Go.Proofs.Ytfcfffilfmbpeaa
