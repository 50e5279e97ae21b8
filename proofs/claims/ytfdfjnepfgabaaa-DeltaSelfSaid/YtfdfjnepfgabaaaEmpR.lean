/- Layer 6: the document's small functions: which extents may be, which neighbours are one. -/
import Derived.Test.YtfdfjnepfgabaaaEmpA
set_option linter.all false
namespace Go.Proofs.Ytfdfjnepfgabaaa
open Go.RowKit

section
variable (w : World)
set_option maxRecDepth 100000 in
theorem rrange_ (o n : Int) (ho : I64 o) (hn : I64 n) : Calls Try.prog 44 #[.int .i64 o, .int .i64 n] w fun e w' => e = .returned (.bool (rangeB o n)) ∧ w = w' := by
  unfold I64 at ho hn
  by_cases h0 : 0 ≤ o
  · by_cases h1 : 1 ≤ n
    · by_cases h3 : o ≤ 1024
      · by_cases h2 : n ≤ 1024 - o
        · rw [rangeB_yes h0 h1 h2]
          go_enter Try.func44, Try.ntmps44
          go_wp2
          go_ret
          exact ⟨rfl, rfl⟩
        · rw [rangeB_no2 h2]
          go_enter Try.func44, Try.ntmps44
          go_wp2
          go_ret
          exact ⟨rfl, rfl⟩
      · rw [rangeB_no2 (show ¬ n ≤ 1024 - o by omega)]
        go_enter Try.func44, Try.ntmps44
        go_wp2
        go_ret
        exact ⟨rfl, rfl⟩
    · rw [rangeB_no1 h1]
      go_enter Try.func44, Try.ntmps44
      go_wp2
      go_ret
      exact ⟨rfl, rfl⟩
  · rw [rangeB_no0 h0]
    go_enter Try.func44, Try.ntmps44
    go_wp2
    go_ret
    exact ⟨rfl, rfl⟩
set_option maxRecDepth 100000 in
set_option maxHeartbeats 1000000 in
theorem rmay_ (x : Ext) (hx : Fit x) : Calls Try.prog 41 #[.agg #[.int .i64 x.off, .int .i64 x.len, .int .i64 x.phys, .int .i64 x.birth]] w fun e w' => e = .returned (.bool x.may) ∧ Below w.heap.size w w' := by
  obtain ⟨fo, fl, fp, fb⟩ := hx.all
  cases hr : rangeB x.off x.len with
  | false =>
    have Hm := Lib.hid (may_no hr)
    go_enter Try.func41, Try.ntmps41
    go_wp2_with fail
    refine (rrange_ _ x.off x.len fo fl).mono ?_
    rw [hr]
    rintro e w' ⟨rfl, rfl⟩
    go_wp2
    go_ret
    rw [Hm.out]
    exact ⟨rfl, (Below.refl _ _).alloc (Nat.le_refl _) _⟩
  | true =>
    have hr2 : 0 ≤ x.off ∧ 1 ≤ x.len ∧ x.len ≤ 1024 - x.off := by
      simp only [rangeB, Bool.and_eq_true, decide_eq_true_eq] at hr
      omega
    by_cases h0 : 0 ≤ x.phys
    · by_cases h1 : x.phys ≤ 1099511627776 - x.len
      · by_cases h2 : 0 ≤ x.birth
        · by_cases h3 : x.birth ≤ 1099511627776
          · have Hm := Lib.hid (may_yes hr h0 h1 h2 h3)
            go_enter Try.func41, Try.ntmps41
            go_wp2_with fail
            refine (rrange_ _ x.off x.len fo fl).mono ?_
            rw [hr]
            rintro e w' ⟨rfl, rfl⟩
            go_wp2
            go_ret
            rw [Hm.out]
            exact ⟨by simp [h3], (Below.refl _ _).alloc (Nat.le_refl _) _⟩
          · have Hm := Lib.hid (may_no2 (x := x) (by omega))
            go_enter Try.func41, Try.ntmps41
            go_wp2_with fail
            refine (rrange_ _ x.off x.len fo fl).mono ?_
            rw [hr]
            rintro e w' ⟨rfl, rfl⟩
            go_wp2
            go_ret
            rw [Hm.out]
            exact ⟨by simp [h3], (Below.refl _ _).alloc (Nat.le_refl _) _⟩
        · have Hm := Lib.hid (may_no2 (x := x) (by omega))
          go_enter Try.func41, Try.ntmps41
          go_wp2_with fail
          refine (rrange_ _ x.off x.len fo fl).mono ?_
          rw [hr]
          rintro e w' ⟨rfl, rfl⟩
          go_wp2
          go_ret
          rw [Hm.out]
          exact ⟨rfl, (Below.refl _ _).alloc (Nat.le_refl _) _⟩
      · have Hm := Lib.hid (may_no2 (x := x) (by omega))
        go_enter Try.func41, Try.ntmps41
        go_wp2_with fail
        refine (rrange_ _ x.off x.len fo fl).mono ?_
        rw [hr]
        rintro e w' ⟨rfl, rfl⟩
        go_wp2
        go_ret
        rw [Hm.out]
        exact ⟨rfl, (Below.refl _ _).alloc (Nat.le_refl _) _⟩
    · have Hm := Lib.hid (may_no2 (x := x) (by omega))
      go_enter Try.func41, Try.ntmps41
      go_wp2_with fail
      refine (rrange_ _ x.off x.len fo fl).mono ?_
      rw [hr]
      rintro e w' ⟨rfl, rfl⟩
      go_wp2
      go_ret
      rw [Hm.out]
      exact ⟨rfl, (Below.refl _ _).alloc (Nat.le_refl _) _⟩

set_option maxRecDepth 100000 in
set_option maxHeartbeats 1000000 in
theorem rone_ (a b : Ext) (h : Near a b) : Calls Try.prog 40 #[.agg #[.int .i64 a.off, .int .i64 a.len, .int .i64 a.phys, .int .i64 a.birth], .agg #[.int .i64 b.off, .int .i64 b.len, .int .i64 b.phys, .int .i64 b.birth]] w fun e w' => e = .returned (.bool (oneB a b)) ∧ Below w.heap.size w w' := by
  obtain ⟨fo, fl, fp, fb⟩ := h.fa.all
  obtain ⟨go, gl, gp, gb⟩ := h.fb.all
  have s1 := h.s1
  have s2 := h.s2
  unfold I64 at s1 s2
  have w1 : IntKind.i64.wrap (a.off + a.len) = a.off + a.len := by rw [IntKind.wrap_i64]; omega
  have w2 : IntKind.i64.wrap (a.phys + a.len) = a.phys + a.len := by rw [IntKind.wrap_i64]; omega
  have hB : Below w.heap.size w ((w.alloc (.cells #[.int .i64 a.off, .int .i64 a.len, .int .i64 a.phys, .int .i64 a.birth] 57)).alloc (.cells #[.int .i64 b.off, .int .i64 b.len, .int .i64 b.phys, .int .i64 b.birth] 57)) :=
    ((Below.refl _ _).alloc (Nat.le_refl _) _).alloc (by simp) _
  by_cases h0 : a.off + a.len = b.off
  · have t0 : (a.off + a.len == b.off) = true := by simpa using h0
    by_cases h1 : a.phys + a.len = b.phys
    · have t1 : (a.phys + a.len == b.phys) = true := by simpa using h1
      by_cases h2 : a.birth = b.birth
      · have t2 : (a.birth == b.birth) = true := by simpa using h2
        have Hm := Lib.hid (one_yes h0 h1 h2)
        clear h0 h1 h2
        go_enter Try.func40, Try.ntmps40
        go_wp2
        go_ret
        rw [Hm.out]
        exact ⟨rfl, hB⟩
      · have t2 : (a.birth == b.birth) = false := by simpa using h2
        have Hm := Lib.hid (one_no2 h2)
        clear h0 h1 h2
        go_enter Try.func40, Try.ntmps40
        go_wp2
        go_ret
        rw [Hm.out]
        exact ⟨rfl, hB⟩
    · have t1 : (a.phys + a.len == b.phys) = false := by simpa using h1
      have Hm := Lib.hid (one_no1 h1)
      clear h0 h1
      go_enter Try.func40, Try.ntmps40
      go_wp2
      go_ret
      rw [Hm.out]
      exact ⟨rfl, hB⟩
  · have t0 : (a.off + a.len == b.off) = false := by simpa using h0
    have Hm := Lib.hid (one_no0 h0)
    clear h0
    go_enter Try.func40, Try.ntmps40
    go_wp2
    go_ret
    rw [Hm.out]
    exact ⟨rfl, hB⟩
end
end Go.Proofs.Ytfdfjnepfgabaaa
