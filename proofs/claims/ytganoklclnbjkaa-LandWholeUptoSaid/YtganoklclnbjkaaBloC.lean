/- Layer 8: the document's Range and Right. -/
import Derived.Test.YtganoklclnbjkaaBloB
set_option linter.all false
namespace Go.Proofs.Ytganoklclnbjkaa
open Go.RowKit
namespace Blo

section
variable (w : World)
set_option maxRecDepth 100000 in
set_option maxHeartbeats 1000000 in
theorem rrange_ (o : BOp) (X : Option Addr) (m c : Nat) (h : Dat w o X m c) : Calls Try.prog 35 #[.agg #[.int .i64 o.kind, .int .i64 o.off, .int .i64 o.len, .slice X m c]] w fun e w' => e = .returned (.tuple #[.int .i64 o.from_, .int .i64 o.cnt]) ∧ Below w.heap.size w w' := by
  obtain ⟨fk, fo, fl⟩ := h.fit.all
  have hm := h.len
  by_cases h1 : o.kind = 1
  · have Hf := Lib.hid (show o.from_ = o.off by unfold BOp.from_; rw [if_pos h1])
    have Hc := Lib.hid (show o.cnt = (m : Int) by unfold BOp.cnt; rw [if_pos h1, hm])
    clear hm h
    go_enter Try.func35, Try.ntmps35
    go_wp2_with fail
    go_quiet (fail)
    go_wp2
    go_ret2
    rw [Hf.out, Hc.out]
    exact ⟨rfl, below_drewN ((Below.refl _ _).alloc (Nat.le_refl _) _) _⟩
  · by_cases h2 : o.kind = 2
    · have Hf := Lib.hid (show o.from_ = o.off by unfold BOp.from_; rw [if_neg h1, if_pos h2])
      have Hc := Lib.hid (show o.cnt = o.len by unfold BOp.cnt; rw [if_neg h1, if_pos h2])
      clear hm h
      go_enter Try.func35, Try.ntmps35
      go_wp2_with fail
      go_quiet (fail)
      go_wp2
      go_ret2
      rw [Hf.out, Hc.out]
      exact ⟨rfl, below_drewN ((Below.refl _ _).alloc (Nat.le_refl _) _) _⟩
    · have Hf := Lib.hid (show o.from_ = 0 by unfold BOp.from_; rw [if_neg h1, if_neg h2])
      have Hc := Lib.hid (show o.cnt = 0 by unfold BOp.cnt; rw [if_neg h1, if_neg h2])
      clear hm h
      go_enter Try.func35, Try.ntmps35
      go_wp2
      go_ret2
      rw [Hf.out, Hc.out]
      exact ⟨rfl, (Below.refl _ _).alloc (Nat.le_refl _) _⟩
set_option maxRecDepth 100000 in
set_option maxHeartbeats 1000000 in
theorem rright1_ (n : Int) (o : BOp) (X : Option Addr) (m c : Nat) (hn : I64 n) (h : Dat w o X m c) : Calls Try.prog 28 #[.int .i64 n, .agg #[.int .i64 o.kind, .int .i64 o.off, .int .i64 o.len, .slice X m c]] w fun e w' => e = .returned (.bool (o.right n)) ∧ Below w.heap.size w w' := by
  obtain ⟨fk, fo, fl⟩ := h.fit.all
  have hfo := h.fit.off
  have hfl := h.fit.len
  have Hm := Lib.hid h.len
  have hml : m ≤ 9223372036854775807 := by have := h.le; have := h.cap; omega
  have hmi : I64 (m : Int) := by unfold I64; omega
  have hba : Below w.heap.size w (w.alloc (.cells #[.int .i64 o.kind, .int .i64 o.off, .int .i64 o.len, .slice X m c] 67)) := (Below.refl _ _).alloc (Nat.le_refl _) _
  have h1 := h.below hba
  clear h
  by_cases hk : o.kind = 1
  · have HR := Lib.hid (show o.right n = (manyB n && decide (o.len = 0) && decide (1 ≤ m) && decide (m ≤ 64) && inB n o.off m) by unfold BOp.right; rw [if_pos hk, Hm.out])
    obtain ⟨kk, hkk⟩ : ∃ z, o.kind = z := ⟨_, rfl⟩
    rw [hkk] at hk hba h1 ⊢
    clear hkk
    subst hk
    go_enter Try.func28, Try.ntmps28
    go_wp2_with fail
    refine (rmany_ _ n hn).mono ?_
    cases hmn : manyB n with
    | false =>
      rintro e w2 ⟨rfl, rfl⟩
      go_wp2
      go_ret
      rw [HR.out, hmn]
      exact ⟨rfl, (Below.refl _ _).alloc (Nat.le_refl _) _⟩
    | true =>
      have hn2 : 0 ≤ n ∧ n ≤ 1024 := by simpa [manyB] using hmn
      have HM := Lib.hid hmn
      clear hmn
      rintro e w2 ⟨rfl, rfl⟩
      by_cases hl : o.len = 0
      · by_cases h1m : (1 : Int) ≤ (m : Int)
        · by_cases h6 : (m : Int) ≤ 64
          · go_wp2_with fail
            refine (rin_ _ n o.off (m : Int) hn2 hfo hmi).mono ?_
            rintro e w3 ⟨rfl, rfl⟩
            go_wp2
            go_ret
            rw [HR.out, HM.out]
            exact ⟨by simp [hl, show 1 ≤ m by omega, show m ≤ 64 by omega], (Below.refl _ _).alloc (Nat.le_refl _) _⟩
          · go_wp2
            go_ret
            rw [HR.out]
            exact ⟨by simp [show ¬ m ≤ 64 by omega], (Below.refl _ _).alloc (Nat.le_refl _) _⟩
        · go_wp2
          go_ret
          rw [HR.out]
          exact ⟨by simp [show m = 0 by omega], (Below.refl _ _).alloc (Nat.le_refl _) _⟩
      · go_wp2
        go_ret
        rw [HR.out]
        exact ⟨by simp [hl], (Below.refl _ _).alloc (Nat.le_refl _) _⟩
  · by_cases hk2 : o.kind = 2
    · have HR := Lib.hid (show o.right n = (manyB n && decide (m = 0) && decide (1 ≤ o.len) && inB n o.off o.len) by
        unfold BOp.right
        rw [if_neg hk, if_pos hk2]
        have e : decide (o.data = []) = decide (m = 0) := by rw [Hm.out]; simp
        rw [e])
      obtain ⟨kk, hkk⟩ : ∃ z, o.kind = z := ⟨_, rfl⟩
      rw [hkk] at hk hk2 hba h1 ⊢
      clear hkk hk
      subst hk2
      go_enter Try.func28, Try.ntmps28
      go_wp2_with fail
      refine (rmany_ _ n hn).mono ?_
      cases hmn : manyB n with
      | false =>
        rintro e w2 ⟨rfl, rfl⟩
        go_wp2
        go_ret
        rw [HR.out, hmn]
        exact ⟨rfl, (Below.refl _ _).alloc (Nat.le_refl _) _⟩
      | true =>
        have hn2 : 0 ≤ n ∧ n ≤ 1024 := by simpa [manyB] using hmn
        have HM := Lib.hid hmn
        clear hmn
        rintro e w2 ⟨rfl, rfl⟩
        by_cases hm0 : (m : Int) = 0
        · by_cases hl : 1 ≤ o.len
          · go_wp2_with fail
            refine (rin_ _ n o.off o.len hn2 hfo hfl).mono ?_
            rintro e w3 ⟨rfl, rfl⟩
            go_wp2
            go_ret
            rw [HR.out, HM.out]
            exact ⟨by simp [hl, show m = 0 by omega], (Below.refl _ _).alloc (Nat.le_refl _) _⟩
          · go_wp2
            go_ret
            rw [HR.out]
            exact ⟨by simp [show ¬ 1 ≤ o.len by omega], (Below.refl _ _).alloc (Nat.le_refl _) _⟩
        · go_wp2
          go_ret
          rw [HR.out]
          exact ⟨by simp [show ¬ m = 0 by omega], (Below.refl _ _).alloc (Nat.le_refl _) _⟩
    · have HR := Lib.hid (show o.right n = false by unfold BOp.right; rw [if_neg hk, if_neg hk2])
      go_enter Try.func28, Try.ntmps28
      go_wp2
      go_ret
      rw [HR.out]
      exact ⟨rfl, (Below.refl _ _).alloc (Nat.le_refl _) _⟩
end
end Blo
end Go.Proofs.Ytganoklclnbjkaa
