/- Layer 8: which ops may be: Right, right; the document's Range and Right. -/
import Derived.Test.YtganoklclnbjkaaBloA
set_option linter.all false
namespace Go.Proofs.Ytganoklclnbjkaa
open Go.RowKit
namespace Blo

theorem from_i64 {o : BOp} (h : FitB o) : I64 o.from_ := by
  obtain ⟨_, ho, _⟩ := h.all
  unfold BOp.from_ I64
  split
  · omega
  · split <;> omega
theorem cnt_i64 {o : BOp} (h : FitB o) (hd : o.data.length ≤ 9223372036854775807) : I64 o.cnt := by
  obtain ⟨_, _, hl⟩ := h.all
  unfold BOp.cnt I64
  split
  · omega
  · split <;> omega
theorem Dat.short {w : World} {o : BOp} {X : Option Addr} {m c : Nat} (h : Dat w o X m c) : o.data.length ≤ 9223372036854775807 := by
  have := h.len; have := h.le; have := h.cap; omega
theorem right_is {o : BOp} {n : Int} : o.right n = (manyB n && (withinB n o.from_ o.cnt && (!decide (o.cnt = 0) && (if o.kind = 1 then decide (o.len = 0) && decide (o.cnt ≤ 64) else decide (o.data.length = 0))))) := by
  unfold BOp.right withinB BOp.from_ BOp.cnt inB
  by_cases h1 : o.kind = 1
  · rw [Bool.eq_iff_iff]
    simp only [if_pos h1, Bool.and_eq_true, decide_eq_true_eq, Bool.not_eq_true', decide_eq_false_iff_not]
    constructor
    · rintro ⟨⟨⟨⟨a, b⟩, c⟩, d⟩, ⟨e, f⟩, g⟩
      exact ⟨a, ⟨⟨e, by omega⟩, g⟩, by omega, b, by omega⟩
    · rintro ⟨a, ⟨⟨b, c⟩, d⟩, e, f, g⟩
      exact ⟨⟨⟨⟨a, f⟩, by omega⟩, by omega⟩, ⟨b, by omega⟩, d⟩
  · by_cases h2 : o.kind = 2
    · rw [Bool.eq_iff_iff]
      simp only [if_neg h1, if_pos h2, Bool.and_eq_true, decide_eq_true_eq, Bool.not_eq_true', decide_eq_false_iff_not]
      constructor
      · rintro ⟨⟨⟨a, b⟩, c⟩, ⟨d, e⟩, f⟩
        exact ⟨a, ⟨⟨d, by omega⟩, f⟩, by omega, by simp [b]⟩
      · rintro ⟨a, ⟨⟨b, c⟩, d⟩, e, f⟩
        exact ⟨⟨⟨a, List.eq_nil_of_length_eq_zero f⟩, by omega⟩, ⟨b, by omega⟩, d⟩
    · simp [if_neg h1, if_neg h2]

section
variable (w : World)
set_option maxRecDepth 100000 in
set_option maxHeartbeats 1000000 in
theorem right1_ (n : Int) (o : BOp) (X : Option Addr) (m c : Nat) (hn : I64 n) (h : Dat w o X m c) : Calls Try.prog 51 #[.int .i64 n, .agg #[.int .i64 o.kind, .int .i64 o.off, .int .i64 o.len, .slice X m c]] w fun e w' => e = .returned (.bool (o.right n)) ∧ Below w.heap.size w w' := by
  obtain ⟨fk, fo, fl⟩ := h.fit.all
  have hff := from_i64 h.fit
  have hcc := cnt_i64 h.fit h.short
  have Hm := Lib.hid h.len
  have hml : m ≤ 9223372036854775807 := by have := h.le; have := h.cap; omega
  have HR := Lib.hid (right_is (o := o) (n := n))
  have hac := Blk.new w 67 #[.int .i64 o.kind, .int .i64 o.off, .int .i64 o.len, .slice X m c] rfl
  have hba : Below w.heap.size w (w.alloc (.cells #[.int .i64 o.kind, .int .i64 o.off, .int .i64 o.len, .slice X m c] 67)) := (Below.refl _ _).alloc (Nat.le_refl _) _
  have h1 := h.below hba
  clear h
  have d0 := hac.cell (j := 0) (u := .int .i64 o.kind) rfl
  have d1 := hac.cell (j := 1) (u := .int .i64 o.off) rfl
  have d2 := hac.cell (j := 2) (u := .int .i64 o.len) rfl
  have d3 := hac.cell (j := 3) (u := .slice X m c) rfl
  go_enter Try.func51, Try.ntmps51
  go_wp2_with fail
  refine (range_ _ o X m c h1).mono ?_
  obtain ⟨fr, hfr⟩ : ∃ z, o.from_ = z := ⟨_, rfl⟩
  obtain ⟨ct, hct⟩ : ∃ z, o.cnt = z := ⟨_, rfl⟩
  rw [hfr] at hff
  rw [hct] at hcc
  rw [hfr, hct]
  rintro e w1 ⟨rfl, hb1⟩
  have hac1 := hac.keep hb1
  clear d0 d1 d2 d3
  have d0 := hac1.cell (j := 0) (u := .int .i64 o.kind) rfl
  have d1 := hac1.cell (j := 1) (u := .int .i64 o.off) rfl
  have d2 := hac1.cell (j := 2) (u := .int .i64 o.len) rfl
  have d3 := hac1.cell (j := 3) (u := .slice X m c) rfl
  have hB1 := below_step hba hb1 (Nat.le_refl _)
  have HF := Lib.hid hfr
  have HC := Lib.hid hct
  clear hfr hct hba hb1 hac hac1 h1
  go_wp2_with fail
  refine (volume_ _ n hn).mono ?_
  cases hmn : manyB n with
  | false =>
    have Hr := Lib.hid (show o.right n = false by rw [HR.out, hmn]; rfl)
    rintro e w2 ⟨rfl, rfl⟩
    go_wp2
    go_ret
    rw [Hr.out]
    exact ⟨rfl, hB1⟩
  | true =>
    have hn2 : 0 ≤ n ∧ n ≤ 1024 := by simpa [manyB] using hmn
    rintro e w2 ⟨rfl, rfl⟩
    go_wp2_with fail
    refine (within_ _ n fr ct hn2 hff hcc).mono ?_
    cases hwi : withinB n fr ct with
    | false =>
      have Hr := Lib.hid (show o.right n = false by rw [HR.out, HF.out, HC.out, hwi]; simp)
      rintro e w2 ⟨rfl, rfl⟩
      go_wp2
      go_ret
      rw [Hr.out]
      exact ⟨rfl, hB1⟩
    | true =>
      rintro e w2 ⟨rfl, rfl⟩
      unfold I64 at hcc
      by_cases h0 : ct = 0
      · have Hr := Lib.hid (show o.right n = false by rw [HR.out, HC.out, h0]; simp)
        go_wp2
        go_ret
        rw [Hr.out]
        exact ⟨rfl, hB1⟩
      · by_cases hk : o.kind = 1
        · by_cases hl : o.len = 0 <;> by_cases hc : ct ≤ 64 <;>
          (have Hr := Lib.hid (show o.right n = (decide (o.len = 0) && decide (ct ≤ 64)) by rw [HR.out, HF.out, HC.out, hmn, hwi, if_pos hk]; simp [h0])
           go_wp2
           go_ret
           rw [Hr.out]
           exact ⟨by simp [hl, hc], hB1⟩)
        · have Hr := Lib.hid (show o.right n = decide (m = 0) by rw [HR.out, HF.out, HC.out, hmn, hwi, if_neg hk, Hm.out]; simp [h0])
          by_cases hm0 : m = 0
          · subst hm0
            go_wp2
            go_ret
            rw [Hr.out]
            exact ⟨by simp, hB1⟩
          · have hm1 : ¬ (m : Int) = 0 := by omega
            go_wp2
            go_ret
            rw [Hr.out]
            exact ⟨by simp [hm0], hB1⟩
set_option maxRecDepth 100000 in
set_option maxHeartbeats 1000000 in
theorem right_ (n : Int) (A : Option Addr) (k c : Nat) (l : List BOp) (hn : I64 n) (h : Opl w A k l) (hk : k ≤ 9223372036854775807) : Calls Try.prog 47 #[.int .i64 n, .slice A k c] w fun e w' => e = .returned (.bool (l.all (·.right n))) ∧ Below w.heap.size w w' := by
  have Hl := Lib.hid h.len
  go_enter Try.func47, Try.ntmps47
  go_wp2_with fail
  go_loopw [9] (fun iv wr => ∃ i : Nat, i ≤ k ∧ iv = .int .i64 (i : Int) ∧ (l.drop i).all (·.right n) = l.all (·.right n) ∧ Below w.heap.size w wr) (fun iv _ => k - (intOf iv).toNat)
  case atStart => exact ⟨0, Nat.zero_le _, rfl, rfl, Below.refl _ _⟩
  case round =>
    obtain ⟨i, hi, rfl, hL, hb⟩ := hrel
    by_cases hlt : i < k
    · have hil : (i : Int) < (k : Int) := by omega
      have hi0 : (0 : Int) ≤ (i : Int) := by omega
      obtain ⟨b, o, X, m, cc, x, rfl, hx, c0, c1, c2, c3, hd⟩ := (h.below hb).at_ hlt
      rw [drop_of hx, List.all_cons] at hL
      have hba : Below w.heap.size w (wr.alloc (.cells #[.int .i64 x.kind, .int .i64 x.off, .int .i64 x.len, .slice X m cc] 67)) := hb.alloc hb.size _
      have hd1 := hd.below (w' := wr.alloc (.cells #[.int .i64 x.kind, .int .i64 x.off, .int .i64 x.len, .slice X m cc] 67)) ((Below.refl _ _).alloc (Nat.le_refl _) _)
      clear h hb hd
      go_wp2_with fail
      refine (right1_ _ n x X m cc hn hd1).mono ?_
      cases hm : x.right n with
      | false =>
        have HB := Lib.hid (show l.all (·.right n) = false by rw [← hL, hm]; rfl)
        clear hL
        rintro e w' ⟨rfl, hb'⟩
        go_wp2
        go_ret
        rw [HB.out]
        exact ⟨rfl, below_step hba hb' (by omega)⟩
      | true =>
        have HL := Lib.hid (show (l.drop (i + 1)).all (·.right n) = l.all (·.right n) by rw [← hL, hm]; rfl)
        clear hL
        rintro e w' ⟨rfl, hb'⟩
        go_wp2
        go_roundw
        case rel => exact ⟨i + 1, by omega, by go_num, HL.out, below_step hba hb' (by omega)⟩
        case measure => simp [intOf]; omega
    · have hin : (k : Int) ≤ (i : Int) := by omega
      have HB := Lib.hid (show l.all (·.right n) = true by rw [← hL, List.drop_of_length_le (by have := Hl.out; omega)]; rfl)
      clear hL
      go_wp2
      go_ret
      rw [HB.out]
      exact ⟨rfl, hb⟩
end
end Blo
end Go.Proofs.Ytganoklclnbjkaa
