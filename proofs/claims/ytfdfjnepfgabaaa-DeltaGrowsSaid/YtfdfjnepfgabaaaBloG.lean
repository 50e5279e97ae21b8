/- XBloB, XBloC, XBloD, XBloE, XBloF, XBloG. -/
import Derived.Test.YtfdfjnepfgabaaaBloA
set_option linter.all false
namespace Go.Proofs.Ytfdfjnepfgabaaa
open Go.RowKit
namespace Blo

theorem from_i64 {o : BOp} (h : FitB o) : I64 o.from_ := by
  obtain ⟨_, ho, _⟩ := h.all
  unfold BOp.from_ I64
  split
  · omega
  · split <;> omega
theorem cnt_i64 {o : BOp} (h : FitB o) (hd : o.data.length ≤ 9223372036854775807) : I64 o.cnt := by
  obtain ⟨_, _, hl⟩ := h.all
  unfold BOp.cnt I64
  split
  · omega
  · split <;> omega
theorem Dat.short {w : World} {o : BOp} {X : Option Addr} {m c : Nat} (h : Dat w o X m c) : o.data.length ≤ 9223372036854775807 := by
  have := h.len; have := h.le; have := h.cap; omega
theorem right_is {o : BOp} {n : Int} : o.right n = (manyB n && (withinB n o.from_ o.cnt && (!decide (o.cnt = 0) && (if o.kind = 1 then decide (o.len = 0) && decide (o.cnt ≤ 64) else decide (o.data.length = 0))))) := by
  unfold BOp.right withinB BOp.from_ BOp.cnt inB
  by_cases h1 : o.kind = 1
  · rw [Bool.eq_iff_iff]
    simp only [if_pos h1, Bool.and_eq_true, decide_eq_true_eq, Bool.not_eq_true', decide_eq_false_iff_not]
    constructor
    · rintro ⟨⟨⟨⟨a, b⟩, c⟩, d⟩, ⟨e, f⟩, g⟩
      exact ⟨a, ⟨⟨e, by omega⟩, g⟩, by omega, b, by omega⟩
    · rintro ⟨a, ⟨⟨b, c⟩, d⟩, e, f, g⟩
      exact ⟨⟨⟨⟨a, f⟩, by omega⟩, by omega⟩, ⟨b, by omega⟩, d⟩
  · by_cases h2 : o.kind = 2
    · rw [Bool.eq_iff_iff]
      simp only [if_neg h1, if_pos h2, Bool.and_eq_true, decide_eq_true_eq, Bool.not_eq_true', decide_eq_false_iff_not]
      constructor
      · rintro ⟨⟨⟨a, b⟩, c⟩, ⟨d, e⟩, f⟩
        exact ⟨a, ⟨⟨d, by omega⟩, f⟩, by omega, by simp [b]⟩
      · rintro ⟨a, ⟨⟨b, c⟩, d⟩, e, f⟩
        exact ⟨⟨⟨a, List.eq_nil_of_length_eq_zero f⟩, by omega⟩, ⟨b, by omega⟩, d⟩
    · simp [if_neg h1, if_neg h2]

section
variable (w : World)
set_option maxRecDepth 100000 in
set_option maxHeartbeats 1000000 in
theorem right1_ (n : Int) (o : BOp) (X : Option Addr) (m c : Nat) (hn : I64 n) (h : Dat w o X m c) : Calls Try.prog 57 #[.int .i64 n, .agg #[.int .i64 o.kind, .int .i64 o.off, .int .i64 o.len, .slice X m c]] w fun e w' => e = .returned (.bool (o.right n)) ∧ Below w.heap.size w w' := by
  obtain ⟨fk, fo, fl⟩ := h.fit.all
  have hff := from_i64 h.fit
  have hcc := cnt_i64 h.fit h.short
  have Hm := Lib.hid h.len
  have hml : m ≤ 9223372036854775807 := by have := h.le; have := h.cap; omega
  have HR := Lib.hid (right_is (o := o) (n := n))
  have hac := Blk.new w 76 #[.int .i64 o.kind, .int .i64 o.off, .int .i64 o.len, .slice X m c] rfl
  have hba : Below w.heap.size w (w.alloc (.cells #[.int .i64 o.kind, .int .i64 o.off, .int .i64 o.len, .slice X m c] 76)) := (Below.refl _ _).alloc (Nat.le_refl _) _
  have h1 := h.below hba
  clear h
  have d0 := hac.cell (j := 0) (u := .int .i64 o.kind) rfl
  have d1 := hac.cell (j := 1) (u := .int .i64 o.off) rfl
  have d2 := hac.cell (j := 2) (u := .int .i64 o.len) rfl
  have d3 := hac.cell (j := 3) (u := .slice X m c) rfl
  go_enter Try.func57, Try.ntmps57
  go_wp2_with fail
  refine (range_ _ o X m c h1).mono ?_
  obtain ⟨fr, hfr⟩ : ∃ z, o.from_ = z := ⟨_, rfl⟩
  obtain ⟨ct, hct⟩ : ∃ z, o.cnt = z := ⟨_, rfl⟩
  rw [hfr] at hff
  rw [hct] at hcc
  rw [hfr, hct]
  rintro e w1 ⟨rfl, hb1⟩
  have hac1 := hac.keep hb1
  clear d0 d1 d2 d3
  have d0 := hac1.cell (j := 0) (u := .int .i64 o.kind) rfl
  have d1 := hac1.cell (j := 1) (u := .int .i64 o.off) rfl
  have d2 := hac1.cell (j := 2) (u := .int .i64 o.len) rfl
  have d3 := hac1.cell (j := 3) (u := .slice X m c) rfl
  have hB1 := below_step hba hb1 (Nat.le_refl _)
  have HF := Lib.hid hfr
  have HC := Lib.hid hct
  clear hfr hct hba hb1 hac hac1 h1
  go_wp2_with fail
  refine (volume_ _ n hn).mono ?_
  cases hmn : manyB n with
  | false =>
    have Hr := Lib.hid (show o.right n = false by rw [HR.out, hmn]; rfl)
    rintro e w2 ⟨rfl, rfl⟩
    go_wp2
    go_ret
    rw [Hr.out]
    exact ⟨rfl, hB1⟩
  | true =>
    have hn2 : 0 ≤ n ∧ n ≤ 1024 := by simpa [manyB] using hmn
    rintro e w2 ⟨rfl, rfl⟩
    go_wp2_with fail
    refine (within_ _ n fr ct hn2 hff hcc).mono ?_
    cases hwi : withinB n fr ct with
    | false =>
      have Hr := Lib.hid (show o.right n = false by rw [HR.out, HF.out, HC.out, hwi]; simp)
      rintro e w2 ⟨rfl, rfl⟩
      go_wp2
      go_ret
      rw [Hr.out]
      exact ⟨rfl, hB1⟩
    | true =>
      rintro e w2 ⟨rfl, rfl⟩
      unfold I64 at hcc
      by_cases h0 : ct = 0
      · have Hr := Lib.hid (show o.right n = false by rw [HR.out, HC.out, h0]; simp)
        go_wp2
        go_ret
        rw [Hr.out]
        exact ⟨rfl, hB1⟩
      · by_cases hk : o.kind = 1
        · by_cases hl : o.len = 0 <;> by_cases hc : ct ≤ 64 <;>
          (have Hr := Lib.hid (show o.right n = (decide (o.len = 0) && decide (ct ≤ 64)) by rw [HR.out, HF.out, HC.out, hmn, hwi, if_pos hk]; simp [h0])
           go_wp2
           go_ret
           rw [Hr.out]
           exact ⟨by simp [hl, hc], hB1⟩)
        · have Hr := Lib.hid (show o.right n = decide (m = 0) by rw [HR.out, HF.out, HC.out, hmn, hwi, if_neg hk, Hm.out]; simp [h0])
          by_cases hm0 : m = 0
          · subst hm0
            go_wp2
            go_ret
            rw [Hr.out]
            exact ⟨by simp, hB1⟩
          · have hm1 : ¬ (m : Int) = 0 := by omega
            go_wp2
            go_ret
            rw [Hr.out]
            exact ⟨by simp [hm0], hB1⟩
set_option maxRecDepth 100000 in
set_option maxHeartbeats 1000000 in
theorem right_ (n : Int) (A : Option Addr) (k c : Nat) (l : List BOp) (hn : I64 n) (h : Opl w A k l) (hk : k ≤ 9223372036854775807) : Calls Try.prog 50 #[.int .i64 n, .slice A k c] w fun e w' => e = .returned (.bool (l.all (·.right n))) ∧ Below w.heap.size w w' := by
  have Hl := Lib.hid h.len
  go_enter Try.func50, Try.ntmps50
  go_wp2_with fail
  go_loopw [9] (fun iv wr => ∃ i : Nat, i ≤ k ∧ iv = .int .i64 (i : Int) ∧ (l.drop i).all (·.right n) = l.all (·.right n) ∧ Below w.heap.size w wr) (fun iv _ => k - (intOf iv).toNat)
  case atStart => exact ⟨0, Nat.zero_le _, rfl, rfl, Below.refl _ _⟩
  case round =>
    obtain ⟨i, hi, rfl, hL, hb⟩ := hrel
    by_cases hlt : i < k
    · have hil : (i : Int) < (k : Int) := by omega
      have hi0 : (0 : Int) ≤ (i : Int) := by omega
      obtain ⟨b, o, X, m, cc, x, rfl, hx, c0, c1, c2, c3, hd⟩ := (h.below hb).at_ hlt
      rw [drop_of hx, List.all_cons] at hL
      have hba : Below w.heap.size w (wr.alloc (.cells #[.int .i64 x.kind, .int .i64 x.off, .int .i64 x.len, .slice X m cc] 76)) := hb.alloc hb.size _
      have hd1 := hd.below (w' := wr.alloc (.cells #[.int .i64 x.kind, .int .i64 x.off, .int .i64 x.len, .slice X m cc] 76)) ((Below.refl _ _).alloc (Nat.le_refl _) _)
      clear h hb hd
      go_wp2_with fail
      refine (right1_ _ n x X m cc hn hd1).mono ?_
      cases hm : x.right n with
      | false =>
        have HB := Lib.hid (show l.all (·.right n) = false by rw [← hL, hm]; rfl)
        clear hL
        rintro e w' ⟨rfl, hb'⟩
        go_wp2
        go_ret
        rw [HB.out]
        exact ⟨rfl, below_step hba hb' (by omega)⟩
      | true =>
        have HL := Lib.hid (show (l.drop (i + 1)).all (·.right n) = l.all (·.right n) by rw [← hL, hm]; rfl)
        clear hL
        rintro e w' ⟨rfl, hb'⟩
        go_wp2
        go_roundw
        case rel => exact ⟨i + 1, by omega, by go_num, HL.out, below_step hba hb' (by omega)⟩
        case measure => simp [intOf]; omega
    · have hin : (k : Int) ≤ (i : Int) := by omega
      have HB := Lib.hid (show l.all (·.right n) = true by rw [← hL, List.drop_of_length_le (by have := Hl.out; omega)]; rfl)
      clear hL
      go_wp2
      go_ret
      rw [HB.out]
      exact ⟨rfl, hb⟩
end
end Blo
end Go.Proofs.Ytfdfjnepfgabaaa

set_option linter.all false
namespace Go.Proofs.Ytfdfjnepfgabaaa
open Go.RowKit
namespace Blo

section
variable (w : World)
set_option maxRecDepth 100000 in
set_option maxHeartbeats 1000000 in
theorem rrange_ (o : BOp) (X : Option Addr) (m c : Nat) (h : Dat w o X m c) : Calls Try.prog 55 #[.agg #[.int .i64 o.kind, .int .i64 o.off, .int .i64 o.len, .slice X m c]] w fun e w' => e = .returned (.tuple #[.int .i64 o.from_, .int .i64 o.cnt]) ∧ Below w.heap.size w w' := by
  obtain ⟨fk, fo, fl⟩ := h.fit.all
  have hm := h.len
  by_cases h1 : o.kind = 1
  · have Hf := Lib.hid (show o.from_ = o.off by unfold BOp.from_; rw [if_pos h1])
    have Hc := Lib.hid (show o.cnt = (m : Int) by unfold BOp.cnt; rw [if_pos h1, hm])
    clear hm h
    go_enter Try.func55, Try.ntmps55
    go_wp2_with fail
    go_quiet (fail)
    go_wp2
    go_ret2
    rw [Hf.out, Hc.out]
    exact ⟨rfl, below_drewN ((Below.refl _ _).alloc (Nat.le_refl _) _) _⟩
  · by_cases h2 : o.kind = 2
    · have Hf := Lib.hid (show o.from_ = o.off by unfold BOp.from_; rw [if_neg h1, if_pos h2])
      have Hc := Lib.hid (show o.cnt = o.len by unfold BOp.cnt; rw [if_neg h1, if_pos h2])
      clear hm h
      go_enter Try.func55, Try.ntmps55
      go_wp2_with fail
      go_quiet (fail)
      go_wp2
      go_ret2
      rw [Hf.out, Hc.out]
      exact ⟨rfl, below_drewN ((Below.refl _ _).alloc (Nat.le_refl _) _) _⟩
    · have Hf := Lib.hid (show o.from_ = 0 by unfold BOp.from_; rw [if_neg h1, if_neg h2])
      have Hc := Lib.hid (show o.cnt = 0 by unfold BOp.cnt; rw [if_neg h1, if_neg h2])
      clear hm h
      go_enter Try.func55, Try.ntmps55
      go_wp2
      go_ret2
      rw [Hf.out, Hc.out]
      exact ⟨rfl, (Below.refl _ _).alloc (Nat.le_refl _) _⟩
set_option maxRecDepth 100000 in
set_option maxHeartbeats 1000000 in
theorem rright1_ (n : Int) (o : BOp) (X : Option Addr) (m c : Nat) (hn : I64 n) (h : Dat w o X m c) : Calls Try.prog 37 #[.int .i64 n, .agg #[.int .i64 o.kind, .int .i64 o.off, .int .i64 o.len, .slice X m c]] w fun e w' => e = .returned (.bool (o.right n)) ∧ Below w.heap.size w w' := by
  obtain ⟨fk, fo, fl⟩ := h.fit.all
  have hfo := h.fit.off
  have hfl := h.fit.len
  have Hm := Lib.hid h.len
  have hml : m ≤ 9223372036854775807 := by have := h.le; have := h.cap; omega
  have hmi : I64 (m : Int) := by unfold I64; omega
  have hba : Below w.heap.size w (w.alloc (.cells #[.int .i64 o.kind, .int .i64 o.off, .int .i64 o.len, .slice X m c] 76)) := (Below.refl _ _).alloc (Nat.le_refl _) _
  have h1 := h.below hba
  clear h
  by_cases hk : o.kind = 1
  · have HR := Lib.hid (show o.right n = (manyB n && decide (o.len = 0) && decide (1 ≤ m) && decide (m ≤ 64) && inB n o.off m) by unfold BOp.right; rw [if_pos hk, Hm.out])
    obtain ⟨kk, hkk⟩ : ∃ z, o.kind = z := ⟨_, rfl⟩
    rw [hkk] at hk hba h1 ⊢
    clear hkk
    subst hk
    go_enter Try.func37, Try.ntmps37
    go_wp2_with fail
    refine (rmany_ _ n hn).mono ?_
    cases hmn : manyB n with
    | false =>
      rintro e w2 ⟨rfl, rfl⟩
      go_wp2
      go_ret
      rw [HR.out, hmn]
      exact ⟨rfl, (Below.refl _ _).alloc (Nat.le_refl _) _⟩
    | true =>
      have hn2 : 0 ≤ n ∧ n ≤ 1024 := by simpa [manyB] using hmn
      have HM := Lib.hid hmn
      clear hmn
      rintro e w2 ⟨rfl, rfl⟩
      by_cases hl : o.len = 0
      · by_cases h1m : (1 : Int) ≤ (m : Int)
        · by_cases h6 : (m : Int) ≤ 64
          · go_wp2_with fail
            refine (rin_ _ n o.off (m : Int) hn2 hfo hmi).mono ?_
            rintro e w3 ⟨rfl, rfl⟩
            go_wp2
            go_ret
            rw [HR.out, HM.out]
            exact ⟨by simp [hl, show 1 ≤ m by omega, show m ≤ 64 by omega], (Below.refl _ _).alloc (Nat.le_refl _) _⟩
          · go_wp2
            go_ret
            rw [HR.out]
            exact ⟨by simp [show ¬ m ≤ 64 by omega], (Below.refl _ _).alloc (Nat.le_refl _) _⟩
        · go_wp2
          go_ret
          rw [HR.out]
          exact ⟨by simp [show m = 0 by omega], (Below.refl _ _).alloc (Nat.le_refl _) _⟩
      · go_wp2
        go_ret
        rw [HR.out]
        exact ⟨by simp [hl], (Below.refl _ _).alloc (Nat.le_refl _) _⟩
  · by_cases hk2 : o.kind = 2
    · have HR := Lib.hid (show o.right n = (manyB n && decide (m = 0) && decide (1 ≤ o.len) && inB n o.off o.len) by
        unfold BOp.right
        rw [if_neg hk, if_pos hk2]
        have e : decide (o.data = []) = decide (m = 0) := by rw [Hm.out]; simp
        rw [e])
      obtain ⟨kk, hkk⟩ : ∃ z, o.kind = z := ⟨_, rfl⟩
      rw [hkk] at hk hk2 hba h1 ⊢
      clear hkk hk
      subst hk2
      go_enter Try.func37, Try.ntmps37
      go_wp2_with fail
      refine (rmany_ _ n hn).mono ?_
      cases hmn : manyB n with
      | false =>
        rintro e w2 ⟨rfl, rfl⟩
        go_wp2
        go_ret
        rw [HR.out, hmn]
        exact ⟨rfl, (Below.refl _ _).alloc (Nat.le_refl _) _⟩
      | true =>
        have hn2 : 0 ≤ n ∧ n ≤ 1024 := by simpa [manyB] using hmn
        have HM := Lib.hid hmn
        clear hmn
        rintro e w2 ⟨rfl, rfl⟩
        by_cases hm0 : (m : Int) = 0
        · by_cases hl : 1 ≤ o.len
          · go_wp2_with fail
            refine (rin_ _ n o.off o.len hn2 hfo hfl).mono ?_
            rintro e w3 ⟨rfl, rfl⟩
            go_wp2
            go_ret
            rw [HR.out, HM.out]
            exact ⟨by simp [hl, show m = 0 by omega], (Below.refl _ _).alloc (Nat.le_refl _) _⟩
          · go_wp2
            go_ret
            rw [HR.out]
            exact ⟨by simp [show ¬ 1 ≤ o.len by omega], (Below.refl _ _).alloc (Nat.le_refl _) _⟩
        · go_wp2
          go_ret
          rw [HR.out]
          exact ⟨by simp [show ¬ m = 0 by omega], (Below.refl _ _).alloc (Nat.le_refl _) _⟩
    · have HR := Lib.hid (show o.right n = false by unfold BOp.right; rw [if_neg hk, if_neg hk2])
      go_enter Try.func37, Try.ntmps37
      go_wp2
      go_ret
      rw [HR.out]
      exact ⟨rfl, (Below.refl _ _).alloc (Nat.le_refl _) _⟩
end
end Blo
end Go.Proofs.Ytfdfjnepfgabaaa

set_option linter.all false
namespace Go.Proofs.Ytfdfjnepfgabaaa
open Go.RowKit
namespace Blo

theorem vol_splice {n : Nat} {f g : Int → Nat} {o : Nat} {ds : List Nat} (ho : o + ds.length ≤ n) (h1 : ∀ i : Nat, i < o → g (i : Int) = f (i : Int)) (h2 : ∀ j (hj : j < ds.length), ds[j] = g ((o + j : Nat) : Int)) (h3 : ∀ i : Nat, o + ds.length ≤ i → g (i : Int) = f (i : Int)) :
    (vol n f).take o ++ ds ++ (vol n f).drop (o + ds.length) = vol n g := by
  apply List.ext_getElem?
  intro i
  have hl := vol_length n f
  by_cases a : i < o
  · rw [List.getElem?_append_left (by simp; omega), List.getElem?_append_left (by simp; omega), List.getElem?_take, if_pos a, vol_at f (by omega), vol_at g (by omega), h1 i a]
  · by_cases b : i < o + ds.length
    · rw [List.getElem?_append_left (by simp; omega), List.getElem?_append_right (by simp; omega), vol_at g (by omega)]
      have hm : i - ((vol n f).take o).length = i - o := by simp; omega
      rw [hm, List.getElem?_eq_getElem (by omega), h2 _ (by omega), show o + (i - o) = i by omega]
    · rw [List.getElem?_append_right (by simp; omega), List.getElem?_drop]
      have hm : o + ds.length + (i - ((vol n f).take o ++ ds).length) = i := by simp; omega
      rw [hm]
      by_cases c : i < n
      · rw [vol_at f c, vol_at g c, h3 i (by omega)]
      · rw [List.getElem?_eq_none (by omega), List.getElem?_eq_none (by rw [vol_length]; omega)]
theorem low_do {f : Int → Nat} {o : BOp} (h : low64 f) (hd : ∀ z ∈ o.data, z < 18446744073709551616) : low64 (doF f o) := fun i => by
  unfold doF
  split
  · unfold BOp.val
    split
    · unfold List.getD
      cases hq : o.data[(i - o.off).toNat]? with
      | none => simp
      | some x => exact hd x (List.mem_of_getElem? hq)
    · omega
  · exact h i
theorem vol_low {n : Nat} {f : Int → Nat} (h : low64 f) : ∀ z ∈ vol n f, z < 18446744073709551616 := fun z hz => by
  obtain ⟨i, _, rfl⟩ := List.mem_map.1 hz
  exact h _
theorem do_write {n : Nat} {f : Int → Nat} {o : BOp} {k : Nat} (hk : o.off = (k : Int)) (h1 : o.kind = 1) (hn : k + o.data.length ≤ n) : (vol n f).take k ++ o.data ++ (vol n f).drop (k + o.data.length) = vol n (doF f o) := by
  have hc : o.cnt = (o.data.length : Int) := by unfold BOp.cnt; rw [if_pos h1]
  refine vol_splice hn (fun i hi => ?_) (fun j hj => ?_) (fun i hi => ?_)
  · unfold doF; rw [if_neg (fun e => by have := BOp.at_iff.1 e; omega)]
  · unfold doF BOp.val
    rw [if_pos (BOp.at_iff.2 ⟨by omega, by omega⟩), if_pos h1, show (((k + j : Nat) : Int) - o.off).toNat = j by omega]
    simp [List.getD, List.getElem?_eq_getElem hj]
  · unfold doF; rw [if_neg (fun e => by have := BOp.at_iff.1 e; omega)]
theorem do_trim {n : Nat} {f : Int → Nat} {o : BOp} {k m : Nat} (hk : o.off = (k : Int)) (h1 : o.kind = 2) (hm : o.len = (m : Int)) (hn : k + m ≤ n) : (vol n f).take k ++ List.replicate m 0 ++ (vol n f).drop (k + m) = vol n (doF f o) := by
  have hc : o.cnt = (m : Int) := by unfold BOp.cnt; rw [if_neg (by omega), if_pos h1, hm]
  have hl : (List.replicate m 0).length = m := by simp
  have := vol_splice (n := n) (f := f) (g := doF f o) (o := k) (ds := List.replicate m 0) (by rw [hl]; exact hn) (fun i hi => ?_) (fun j hj => ?_) (fun i hi => ?_)
  · rwa [hl] at this
  · unfold doF; rw [if_neg (fun e => by have := BOp.at_iff.1 e; omega)]
  · rw [hl] at hj
    unfold doF BOp.val
    rw [if_pos (BOp.at_iff.2 ⟨by omega, by omega⟩), if_neg (by omega)]
    simp
  · rw [hl] at hi
    unfold doF; rw [if_neg (fun e => by have := BOp.at_iff.1 e; omega)]

/-! ### copy and clear, onto a row of the call's own -/
section
variable (w : World)
end
end Blo
end Go.Proofs.Ytfdfjnepfgabaaa

set_option linter.all false
namespace Go.Proofs.Ytfdfjnepfgabaaa
open Go.RowKit
namespace Blo

/-- What Apply answers: the error's number, the volume. -/
def apE (n : Nat) (l : List BOp) : Int := if manyB n then (if l.all (·.right n) then 0 else 1) else 6
def apL (v : List Nat) (l : List BOp) : List Nat := if manyB v.length then (if l.all (·.right v.length) then vol v.length (l.foldl doF (fun_ v)) else []) else []
/-- Rows of numbers that were answered. -/
structure GotN (w : World) (B : Nat) (A : Option Addr) (m c : Nat) (l : List Nat) : Prop where
  own : w.ownsRow B 51 1 (.slice A m c) m (nvs l)
  low : ∀ z ∈ l, z < 18446744073709551616
theorem GotN.ns {w : World} {B : Nat} {A : Option Addr} {m c : Nat} {l : List Nat} (h : GotN w B A m c l) : Ns w A m l := no_ns h.own h.low
theorem GotN.keep {w w' : World} {B : Nat} {A : Option Addr} {m c : Nat} {l : List Nat} (h : GotN w B A m c l) (hb : Below w.heap.size w w') : GotN w' B A m c l := ⟨own_keep h.own hb, h.low⟩
theorem GotN.no (w : World) (B : Nat) : GotN w B none 0 0 [] := ⟨own_nil _ _ _ _, by simp⟩
theorem GotN.bounds {w : World} {B : Nat} {A : Option Addr} {m c : Nat} {l : List Nat} (h : GotN w B A m c l) : m ≤ c ∧ c ≤ 9223372036854775807 ∧ (A = none → m = 0 ∧ c = 0) := by
  obtain ⟨A', c', e, h1, h2, h3⟩ := own_form h.own
  injection e with e1 _ e3
  subst e1 e3
  exact ⟨h1, by unfold maxLen at h2; omega, h3⟩
def AnsN (w w' : World) (e : Ending) (er : Int) (l : List Nat) : Prop := ∃ A m c, e = .returned (.tuple #[.slice A m c, .int .i64 er]) ∧ GotN w' w.heap.size A m c l ∧ Below w.heap.size w w'
theorem foldl_low {l : List BOp} (hd : ∀ o ∈ l, ∀ z ∈ o.data, z < 18446744073709551616) {f : Int → Nat} (h : low64 f) : low64 (l.foldl doF f) := by
  induction l generalizing f with
  | nil => exact h
  | cons o l ih => exact ih (fun x hx => hd x (by simp [hx])) (low_do h (hd o (by simp)))
theorem Opl.low {w : World} {A : Option Addr} {n : Nat} {l : List BOp} (h : Opl w A n l) : ∀ o ∈ l, ∀ z ∈ o.data, z < 18446744073709551616 := fun o ho => by
  obtain ⟨k, hk, rfl⟩ := List.getElem_of_mem ho
  obtain ⟨b, o, X, m, c, _, _, _, _, _, hd⟩ := h.each k hk
  exact hd.ns.2
theorem apL_low {v : List Nat} {l : List BOp} (hv : ∀ z ∈ v, z < 18446744073709551616) (hd : ∀ o ∈ l, ∀ z ∈ o.data, z < 18446744073709551616) : ∀ z ∈ apL v l, z < 18446744073709551616 := by
  unfold apL
  split
  · split
    · exact vol_low (foldl_low hd (fun_low hv))
    · simp
  · simp
theorem dat_alloc {w : World} {o : BOp} {X : Option Addr} {m c : Nat} (h : Dat w o X m c) (x : Obj) : Dat (w.alloc x) o X m c := h.below ((Below.refl _ _).alloc (Nat.le_refl _) _)
section
variable (w : World)
theorem range_at (o : BOp) (X : Option Addr) (m c : Nat) (h : Dat w o X m c) (k q : Nat) (hk : o.from_ = (k : Int)) (hq : o.cnt = (q : Int)) : Calls Try.prog 52 #[.agg #[.int .i64 o.kind, .int .i64 o.off, .int .i64 o.len, .slice X m c]] w fun e w' => e = .returned (.tuple #[.int .i64 (k : Int), .int .i64 (q : Int)]) ∧ Below w.heap.size w w' := by
  have := range_ w o X m c h
  rw [hk, hq] at this
  exact this
theorem rrange_at (o : BOp) (X : Option Addr) (m c : Nat) (h : Dat w o X m c) (k q : Nat) (hk : o.from_ = (k : Int)) (hq : o.cnt = (q : Int)) : Calls Try.prog 55 #[.agg #[.int .i64 o.kind, .int .i64 o.off, .int .i64 o.len, .slice X m c]] w fun e w' => e = .returned (.tuple #[.int .i64 (k : Int), .int .i64 (q : Int)]) ∧ Below w.heap.size w w' := by
  have := rrange_ w o X m c h
  rw [hk, hq] at this
  exact this
set_option maxRecDepth 100000 in
set_option maxHeartbeats 1000000 in
theorem do_ (base : Nat) (v : Value) (n : Nat) (f : Int → Nat) (o : BOp) (X : Option Addr) (m c : Nat) (hown : w.ownsRow base 51 1 v n (nvs (vol n f))) (hb : base ≤ w.heap.size) (hn : n ≤ 1024) (ho : o.Ok n) (h : Dat w o X m c) :
    Calls Try.prog 51 #[v, .agg #[.int .i64 o.kind, .int .i64 o.off, .int .i64 o.len, .slice X m c]] w fun e w' => e = .returned (.tuple #[]) ∧ w'.ownsRow base 51 1 v n (nvs (vol n (doF f o))) ∧ w.grownBy w' v.ownBlock := by
  obtain ⟨fk, fo, fl⟩ := h.fit.all
  have hlow := ho.low
  have hhigh := ho.high
  have hsome := ho.some
  obtain ⟨k, hk⟩ := Int.eq_ofNat_of_zero_le hlow
  obtain ⟨q, hq⟩ := Int.eq_ofNat_of_zero_le (show 0 ≤ o.cnt by omega)
  have hfr := from_ok ho
  obtain ⟨g, cap, cur, rfl, hncap, hcap, hbg, hblk, -, -⟩ := own_cells hown (by omega)
  clear hblk
  have hac := Blk.new w 76 #[.int .i64 o.kind, .int .i64 o.off, .int .i64 o.len, .slice X m c] rfl
  have hba : Below w.heap.size w (w.alloc (.cells #[.int .i64 o.kind, .int .i64 o.off, .int .i64 o.len, .slice X m c] 76)) := (Below.refl _ _).alloc (Nat.le_refl _) _
  have h1 := dat_alloc h (.cells #[.int .i64 o.kind, .int .i64 o.off, .int .i64 o.len, .slice X m c] 76)
  have hown1 := own_keep hown hba
  have d0 := hac.cell (j := 0) (u := .int .i64 o.kind) rfl
  have d1 := hac.cell (j := 1) (u := .int .i64 o.off) rfl
  have d2 := hac.cell (j := 2) (u := .int .i64 o.len) rfl
  have d3 := hac.cell (j := 3) (u := .slice X m c) rfl
  have Hk := Lib.hid hk
  have Hq := Lib.hid hq
  have Hfr := Lib.hid hfr
  clear hk hq hfr
  go_enter Try.func51, Try.ntmps51
  go_wp2_with fail
  refine (range_at _ o X m c h1 k q (by rw [Hfr.out, Hk.out]) Hq.out).mono ?_
  have hk := Hk.out
  have hq := Hq.out
  have hfr := Hfr.out
  clear Hk Hq Hfr
  rintro e w1 ⟨rfl, hb1⟩
  have hac1 := hac.keep hb1
  clear d0 d1 d2 d3
  have d0 := hac1.cell (j := 0) (u := .int .i64 o.kind) rfl
  have d3 := hac1.cell (j := 3) (u := .slice X m c) rfl
  have hB1 := below_step hba hb1 (Nat.le_refl _)
  have hown2 := own_keep hown1 hb1
  have hd2 := h1.below hb1
  have hkn : k + q ≤ n := by omega
  have hq0 : 0 < q := by omega
  have t1 : (k : Int) ≤ (n : Int) := by omega
  have t2 : ¬ cap = k := by omega
  have t3 : (0 : Int) ≤ (k : Int) := by omega
  have t4 : IntKind.i64.wrap ((k : Int) + (q : Int)) = ((k + q : Nat) : Int) := by rw [IntKind.wrap_i64]; omega
  have t5 : ((k + q : Nat) : Int) ≤ (cap : Int) := by omega
  have t6 : (k : Int) ≤ ((k + q : Nat) : Int) := by omega
  have t7 : k ≤ cap := by omega
  have hgrow : ∀ w2 : World, w1.grownBy w2 (some g) → w.grownBy w2 (some g) := fun w2 hg => grown_step (below_grown hB1 (some g)) hg (fun j hj => .inr hj)
  clear hac hba h1 hown1 hb1 hac1 hown h
  rcases ho.form with ⟨k1, k2, k3⟩ | ⟨k1, k2⟩
  · have hqm : q = m := by have := hd2.len; unfold BOp.cnt at hq; rw [if_pos k1] at hq; omega
    subst hqm
    have Hd := Lib.hid (do_write (n := n) (f := f) hk k1 (by have := hd2.len; omega))
    have Hm := Lib.hid hd2.len
    have hrd := hd2.ns.1
    obtain ⟨i1, hi1, hz1, hs1, hb1⟩ := u64_info
    have hi2 : (Try.prog.info? 51).map (·.size) = some 1 := by rw [hi1]; simp [hs1]
    clear hi1 hz1 hs1 hb1
    clear hq hfr hk k2 k3 hd2 fo fl hlow hhigh hsome ho
    go_wp2_with (first
      | (refine wpList_copy_row _ rfl (.tmp 22) (.tmp 24) 23 rfl base g n cap 51 _ hown2 Try.underlying23 hi2 k _ X q c _ hrd (nvs_one _) hq0 hkn _ rfl (by omega) rfl ?_
         intro z w2 hown3 hg2))
    go_end0
    refine ⟨rfl, ?_, hgrow _ hg2⟩
    rw [← Hd.out, nvs_app, nvs_app, ← nvs_take, ← nvs_drop, ← Hm.out]
    exact hown3
  · have hqm : o.len = (q : Int) := by unfold BOp.cnt at hq; rw [if_neg (by omega), if_pos k1] at hq; exact hq
    have Hd := Lib.hid (do_trim (n := n) (f := f) hk k1 hqm (by omega))
    clear hq hfr hk k2 hqm hd2 fo fl hlow hhigh hsome ho
    go_wp2_with (first
      | (refine wpList_clear_row _ rfl (.tmp 21) 23 rfl base g n cap 51 (.int .u64 0) _ hown2 Try.underlying23 zero_u64 rfl rfl k q _ hq0 hkn _ rfl (by omega) ?_
         intro w2 hown3 hg2))
    refine bodyPost_ret (results_none rfl _ _ _) rfl ?_
    refine ⟨rfl, ?_, hgrow _ hg2⟩
    rw [← Hd.out, nvs_app, nvs_app, ← nvs_take, ← nvs_drop, ← nvs_zeros]
    exact hown3
end
end Blo
end Go.Proofs.Ytfdfjnepfgabaaa

set_option linter.all false
namespace Go.Proofs.Ytfdfjnepfgabaaa
open Go.RowKit
namespace Blo

theorem all_right {l : List BOp} {n : Int} (h : l.all (·.right n) = true) {x : BOp} (hx : x ∈ l) : x.Ok n := (ok_of_right (List.all_eq_true.1 h x hx)).1
theorem many_nat {n : Nat} (h : manyB n = true) : n ≤ 1024 := by
  simp only [manyB, Bool.and_eq_true, decide_eq_true_eq] at h; omega
section
variable (w : World)
end
end Blo
end Go.Proofs.Ytfdfjnepfgabaaa

set_option linter.all false
namespace Go.Proofs.Ytfdfjnepfgabaaa
open Go.RowKit
namespace Blo

section
variable (w : World)
end
end Blo
end Go.Proofs.Ytfdfjnepfgabaaa
