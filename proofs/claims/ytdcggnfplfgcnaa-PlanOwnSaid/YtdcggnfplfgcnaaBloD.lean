/- XBloB, XBloC, XBloD. -/
import Derived.Test.YtdcggnfplfgcnaaBloA
set_option linter.all false
namespace Go.Proofs.Ytdcggnfplfgcnaa
open Go.RowKit
namespace Blo

theorem from_i64 {o : BOp} (h : FitB o) : I64 o.from_ := by
  obtain ⟨_, ho, _⟩ := h.all
  unfold BOp.from_ I64
  split
  · omega
  · split <;> omega
theorem cnt_i64 {o : BOp} (h : FitB o) (hd : o.data.length ≤ 9223372036854775807) : I64 o.cnt := by
  obtain ⟨_, _, hl⟩ := h.all
  unfold BOp.cnt I64
  split
  · omega
  · split <;> omega
theorem Dat.short {w : World} {o : BOp} {X : Option Addr} {m c : Nat} (h : Dat w o X m c) : o.data.length ≤ 9223372036854775807 := by
  have := h.len; have := h.le; have := h.cap; omega
theorem right_is {o : BOp} {n : Int} : o.right n = (manyB n && (withinB n o.from_ o.cnt && (!decide (o.cnt = 0) && (if o.kind = 1 then decide (o.len = 0) && decide (o.cnt ≤ 64) else decide (o.data.length = 0))))) := by
  unfold BOp.right withinB BOp.from_ BOp.cnt inB
  by_cases h1 : o.kind = 1
  · rw [Bool.eq_iff_iff]
    simp only [if_pos h1, Bool.and_eq_true, decide_eq_true_eq, Bool.not_eq_true', decide_eq_false_iff_not]
    constructor
    · rintro ⟨⟨⟨⟨a, b⟩, c⟩, d⟩, ⟨e, f⟩, g⟩
      exact ⟨a, ⟨⟨e, by omega⟩, g⟩, by omega, b, by omega⟩
    · rintro ⟨a, ⟨⟨b, c⟩, d⟩, e, f, g⟩
      exact ⟨⟨⟨⟨a, f⟩, by omega⟩, by omega⟩, ⟨b, by omega⟩, d⟩
  · by_cases h2 : o.kind = 2
    · rw [Bool.eq_iff_iff]
      simp only [if_neg h1, if_pos h2, Bool.and_eq_true, decide_eq_true_eq, Bool.not_eq_true', decide_eq_false_iff_not]
      constructor
      · rintro ⟨⟨⟨a, b⟩, c⟩, ⟨d, e⟩, f⟩
        exact ⟨a, ⟨⟨d, by omega⟩, f⟩, by omega, by simp [b]⟩
      · rintro ⟨a, ⟨⟨b, c⟩, d⟩, e, f⟩
        exact ⟨⟨⟨a, List.eq_nil_of_length_eq_zero f⟩, by omega⟩, ⟨b, by omega⟩, d⟩
    · simp [if_neg h1, if_neg h2]

section
variable (w : World)
set_option maxRecDepth 100000 in
set_option maxHeartbeats 1000000 in
theorem right1_ (n : Int) (o : BOp) (X : Option Addr) (m c : Nat) (hn : I64 n) (h : Dat w o X m c) : Calls Try.prog 57 #[.int .i64 n, .agg #[.int .i64 o.kind, .int .i64 o.off, .int .i64 o.len, .slice X m c]] w fun e w' => e = .returned (.bool (o.right n)) ∧ Below w.heap.size w w' := by
  obtain ⟨fk, fo, fl⟩ := h.fit.all
  have hff := from_i64 h.fit
  have hcc := cnt_i64 h.fit h.short
  have Hm := Lib.hid h.len
  have hml : m ≤ 9223372036854775807 := by have := h.le; have := h.cap; omega
  have HR := Lib.hid (right_is (o := o) (n := n))
  have hac := Blk.new w 27 #[.int .i64 o.kind, .int .i64 o.off, .int .i64 o.len, .slice X m c] rfl
  have hba : Below w.heap.size w (w.alloc (.cells #[.int .i64 o.kind, .int .i64 o.off, .int .i64 o.len, .slice X m c] 27)) := (Below.refl _ _).alloc (Nat.le_refl _) _
  have h1 := h.below hba
  clear h
  have d0 := hac.cell (j := 0) (u := .int .i64 o.kind) rfl
  have d1 := hac.cell (j := 1) (u := .int .i64 o.off) rfl
  have d2 := hac.cell (j := 2) (u := .int .i64 o.len) rfl
  have d3 := hac.cell (j := 3) (u := .slice X m c) rfl
  go_enter Try.func57, Try.ntmps57
  go_wp2_with fail
  refine (range_ _ o X m c h1).mono ?_
  obtain ⟨fr, hfr⟩ : ∃ z, o.from_ = z := ⟨_, rfl⟩
  obtain ⟨ct, hct⟩ : ∃ z, o.cnt = z := ⟨_, rfl⟩
  rw [hfr] at hff
  rw [hct] at hcc
  rw [hfr, hct]
  rintro e w1 ⟨rfl, hb1⟩
  have hac1 := hac.keep hb1
  clear d0 d1 d2 d3
  have d0 := hac1.cell (j := 0) (u := .int .i64 o.kind) rfl
  have d1 := hac1.cell (j := 1) (u := .int .i64 o.off) rfl
  have d2 := hac1.cell (j := 2) (u := .int .i64 o.len) rfl
  have d3 := hac1.cell (j := 3) (u := .slice X m c) rfl
  have hB1 := below_step hba hb1 (Nat.le_refl _)
  have HF := Lib.hid hfr
  have HC := Lib.hid hct
  clear hfr hct hba hb1 hac hac1 h1
  go_wp2_with fail
  refine (volume_ _ n hn).mono ?_
  cases hmn : manyB n with
  | false =>
    have Hr := Lib.hid (show o.right n = false by rw [HR.out, hmn]; rfl)
    rintro e w2 ⟨rfl, rfl⟩
    go_wp2
    go_ret
    rw [Hr.out]
    exact ⟨rfl, hB1⟩
  | true =>
    have hn2 : 0 ≤ n ∧ n ≤ 1024 := by simpa [manyB] using hmn
    rintro e w2 ⟨rfl, rfl⟩
    go_wp2_with fail
    refine (within_ _ n fr ct hn2 hff hcc).mono ?_
    cases hwi : withinB n fr ct with
    | false =>
      have Hr := Lib.hid (show o.right n = false by rw [HR.out, HF.out, HC.out, hwi]; simp)
      rintro e w2 ⟨rfl, rfl⟩
      go_wp2
      go_ret
      rw [Hr.out]
      exact ⟨rfl, hB1⟩
    | true =>
      rintro e w2 ⟨rfl, rfl⟩
      unfold I64 at hcc
      by_cases h0 : ct = 0
      · have Hr := Lib.hid (show o.right n = false by rw [HR.out, HC.out, h0]; simp)
        go_wp2
        go_ret
        rw [Hr.out]
        exact ⟨rfl, hB1⟩
      · by_cases hk : o.kind = 1
        · by_cases hl : o.len = 0 <;> by_cases hc : ct ≤ 64 <;>
          (have Hr := Lib.hid (show o.right n = (decide (o.len = 0) && decide (ct ≤ 64)) by rw [HR.out, HF.out, HC.out, hmn, hwi, if_pos hk]; simp [h0])
           go_wp2
           go_ret
           rw [Hr.out]
           exact ⟨by simp [hl, hc], hB1⟩)
        · have Hr := Lib.hid (show o.right n = decide (m = 0) by rw [HR.out, HF.out, HC.out, hmn, hwi, if_neg hk, Hm.out]; simp [h0])
          by_cases hm0 : m = 0
          · subst hm0
            go_wp2
            go_ret
            rw [Hr.out]
            exact ⟨by simp, hB1⟩
          · have hm1 : ¬ (m : Int) = 0 := by omega
            go_wp2
            go_ret
            rw [Hr.out]
            exact ⟨by simp [hm0], hB1⟩
end
end Blo
end Go.Proofs.Ytdcggnfplfgcnaa

set_option linter.all false
namespace Go.Proofs.Ytdcggnfplfgcnaa
open Go.RowKit
namespace Blo

section
variable (w : World)
set_option maxRecDepth 100000 in
set_option maxHeartbeats 1000000 in
theorem rrange_ (o : BOp) (X : Option Addr) (m c : Nat) (h : Dat w o X m c) : Calls Try.prog 30 #[.agg #[.int .i64 o.kind, .int .i64 o.off, .int .i64 o.len, .slice X m c]] w fun e w' => e = .returned (.tuple #[.int .i64 o.from_, .int .i64 o.cnt]) ∧ Below w.heap.size w w' := by
  obtain ⟨fk, fo, fl⟩ := h.fit.all
  have hm := h.len
  by_cases h1 : o.kind = 1
  · have Hf := Lib.hid (show o.from_ = o.off by unfold BOp.from_; rw [if_pos h1])
    have Hc := Lib.hid (show o.cnt = (m : Int) by unfold BOp.cnt; rw [if_pos h1, hm])
    clear hm h
    go_enter Try.func30, Try.ntmps30
    go_wp2_with fail
    go_quiet (fail)
    go_wp2
    go_ret2
    rw [Hf.out, Hc.out]
    exact ⟨rfl, below_drewN ((Below.refl _ _).alloc (Nat.le_refl _) _) _⟩
  · by_cases h2 : o.kind = 2
    · have Hf := Lib.hid (show o.from_ = o.off by unfold BOp.from_; rw [if_neg h1, if_pos h2])
      have Hc := Lib.hid (show o.cnt = o.len by unfold BOp.cnt; rw [if_neg h1, if_pos h2])
      clear hm h
      go_enter Try.func30, Try.ntmps30
      go_wp2_with fail
      go_quiet (fail)
      go_wp2
      go_ret2
      rw [Hf.out, Hc.out]
      exact ⟨rfl, below_drewN ((Below.refl _ _).alloc (Nat.le_refl _) _) _⟩
    · have Hf := Lib.hid (show o.from_ = 0 by unfold BOp.from_; rw [if_neg h1, if_neg h2])
      have Hc := Lib.hid (show o.cnt = 0 by unfold BOp.cnt; rw [if_neg h1, if_neg h2])
      clear hm h
      go_enter Try.func30, Try.ntmps30
      go_wp2
      go_ret2
      rw [Hf.out, Hc.out]
      exact ⟨rfl, (Below.refl _ _).alloc (Nat.le_refl _) _⟩
set_option maxRecDepth 100000 in
set_option maxHeartbeats 1000000 in
theorem rright1_ (n : Int) (o : BOp) (X : Option Addr) (m c : Nat) (hn : I64 n) (h : Dat w o X m c) : Calls Try.prog 40 #[.int .i64 n, .agg #[.int .i64 o.kind, .int .i64 o.off, .int .i64 o.len, .slice X m c]] w fun e w' => e = .returned (.bool (o.right n)) ∧ Below w.heap.size w w' := by
  obtain ⟨fk, fo, fl⟩ := h.fit.all
  have hfo := h.fit.off
  have hfl := h.fit.len
  have Hm := Lib.hid h.len
  have hml : m ≤ 9223372036854775807 := by have := h.le; have := h.cap; omega
  have hmi : I64 (m : Int) := by unfold I64; omega
  have hba : Below w.heap.size w (w.alloc (.cells #[.int .i64 o.kind, .int .i64 o.off, .int .i64 o.len, .slice X m c] 27)) := (Below.refl _ _).alloc (Nat.le_refl _) _
  have h1 := h.below hba
  clear h
  by_cases hk : o.kind = 1
  · have HR := Lib.hid (show o.right n = (manyB n && decide (o.len = 0) && decide (1 ≤ m) && decide (m ≤ 64) && inB n o.off m) by unfold BOp.right; rw [if_pos hk, Hm.out])
    obtain ⟨kk, hkk⟩ : ∃ z, o.kind = z := ⟨_, rfl⟩
    rw [hkk] at hk hba h1 ⊢
    clear hkk
    subst hk
    go_enter Try.func40, Try.ntmps40
    go_wp2_with fail
    refine (rmany_ _ n hn).mono ?_
    cases hmn : manyB n with
    | false =>
      rintro e w2 ⟨rfl, rfl⟩
      go_wp2
      go_ret
      rw [HR.out, hmn]
      exact ⟨rfl, (Below.refl _ _).alloc (Nat.le_refl _) _⟩
    | true =>
      have hn2 : 0 ≤ n ∧ n ≤ 1024 := by simpa [manyB] using hmn
      have HM := Lib.hid hmn
      clear hmn
      rintro e w2 ⟨rfl, rfl⟩
      by_cases hl : o.len = 0
      · by_cases h1m : (1 : Int) ≤ (m : Int)
        · by_cases h6 : (m : Int) ≤ 64
          · go_wp2_with fail
            refine (rin_ _ n o.off (m : Int) hn2 hfo hmi).mono ?_
            rintro e w3 ⟨rfl, rfl⟩
            go_wp2
            go_ret
            rw [HR.out, HM.out]
            exact ⟨by simp [hl, show 1 ≤ m by omega, show m ≤ 64 by omega], (Below.refl _ _).alloc (Nat.le_refl _) _⟩
          · go_wp2
            go_ret
            rw [HR.out]
            exact ⟨by simp [show ¬ m ≤ 64 by omega], (Below.refl _ _).alloc (Nat.le_refl _) _⟩
        · go_wp2
          go_ret
          rw [HR.out]
          exact ⟨by simp [show m = 0 by omega], (Below.refl _ _).alloc (Nat.le_refl _) _⟩
      · go_wp2
        go_ret
        rw [HR.out]
        exact ⟨by simp [hl], (Below.refl _ _).alloc (Nat.le_refl _) _⟩
  · by_cases hk2 : o.kind = 2
    · have HR := Lib.hid (show o.right n = (manyB n && decide (m = 0) && decide (1 ≤ o.len) && inB n o.off o.len) by
        unfold BOp.right
        rw [if_neg hk, if_pos hk2]
        have e : decide (o.data = []) = decide (m = 0) := by rw [Hm.out]; simp
        rw [e])
      obtain ⟨kk, hkk⟩ : ∃ z, o.kind = z := ⟨_, rfl⟩
      rw [hkk] at hk hk2 hba h1 ⊢
      clear hkk hk
      subst hk2
      go_enter Try.func40, Try.ntmps40
      go_wp2_with fail
      refine (rmany_ _ n hn).mono ?_
      cases hmn : manyB n with
      | false =>
        rintro e w2 ⟨rfl, rfl⟩
        go_wp2
        go_ret
        rw [HR.out, hmn]
        exact ⟨rfl, (Below.refl _ _).alloc (Nat.le_refl _) _⟩
      | true =>
        have hn2 : 0 ≤ n ∧ n ≤ 1024 := by simpa [manyB] using hmn
        have HM := Lib.hid hmn
        clear hmn
        rintro e w2 ⟨rfl, rfl⟩
        by_cases hm0 : (m : Int) = 0
        · by_cases hl : 1 ≤ o.len
          · go_wp2_with fail
            refine (rin_ _ n o.off o.len hn2 hfo hfl).mono ?_
            rintro e w3 ⟨rfl, rfl⟩
            go_wp2
            go_ret
            rw [HR.out, HM.out]
            exact ⟨by simp [hl, show m = 0 by omega], (Below.refl _ _).alloc (Nat.le_refl _) _⟩
          · go_wp2
            go_ret
            rw [HR.out]
            exact ⟨by simp [show ¬ 1 ≤ o.len by omega], (Below.refl _ _).alloc (Nat.le_refl _) _⟩
        · go_wp2
          go_ret
          rw [HR.out]
          exact ⟨by simp [show ¬ m = 0 by omega], (Below.refl _ _).alloc (Nat.le_refl _) _⟩
    · have HR := Lib.hid (show o.right n = false by unfold BOp.right; rw [if_neg hk, if_neg hk2])
      go_enter Try.func40, Try.ntmps40
      go_wp2
      go_ret
      rw [HR.out]
      exact ⟨rfl, (Below.refl _ _).alloc (Nat.le_refl _) _⟩
end
end Blo
end Go.Proofs.Ytdcggnfplfgcnaa

set_option linter.all false
namespace Go.Proofs.Ytdcggnfplfgcnaa
open Go.RowKit
namespace Blo

theorem vol_splice {n : Nat} {f g : Int → Nat} {o : Nat} {ds : List Nat} (ho : o + ds.length ≤ n) (h1 : ∀ i : Nat, i < o → g (i : Int) = f (i : Int)) (h2 : ∀ j (hj : j < ds.length), ds[j] = g ((o + j : Nat) : Int)) (h3 : ∀ i : Nat, o + ds.length ≤ i → g (i : Int) = f (i : Int)) :
    (vol n f).take o ++ ds ++ (vol n f).drop (o + ds.length) = vol n g := by
  apply List.ext_getElem?
  intro i
  have hl := vol_length n f
  by_cases a : i < o
  · rw [List.getElem?_append_left (by simp; omega), List.getElem?_append_left (by simp; omega), List.getElem?_take, if_pos a, vol_at f (by omega), vol_at g (by omega), h1 i a]
  · by_cases b : i < o + ds.length
    · rw [List.getElem?_append_left (by simp; omega), List.getElem?_append_right (by simp; omega), vol_at g (by omega)]
      have hm : i - ((vol n f).take o).length = i - o := by simp; omega
      rw [hm, List.getElem?_eq_getElem (by omega), h2 _ (by omega), show o + (i - o) = i by omega]
    · rw [List.getElem?_append_right (by simp; omega), List.getElem?_drop]
      have hm : o + ds.length + (i - ((vol n f).take o ++ ds).length) = i := by simp; omega
      rw [hm]
      by_cases c : i < n
      · rw [vol_at f c, vol_at g c, h3 i (by omega)]
      · rw [List.getElem?_eq_none (by omega), List.getElem?_eq_none (by rw [vol_length]; omega)]
theorem low_do {f : Int → Nat} {o : BOp} (h : low64 f) (hd : ∀ z ∈ o.data, z < 18446744073709551616) : low64 (doF f o) := fun i => by
  unfold doF
  split
  · unfold BOp.val
    split
    · unfold List.getD
      cases hq : o.data[(i - o.off).toNat]? with
      | none => simp
      | some x => exact hd x (List.mem_of_getElem? hq)
    · omega
  · exact h i
theorem vol_low {n : Nat} {f : Int → Nat} (h : low64 f) : ∀ z ∈ vol n f, z < 18446744073709551616 := fun z hz => by
  obtain ⟨i, _, rfl⟩ := List.mem_map.1 hz
  exact h _
theorem do_write {n : Nat} {f : Int → Nat} {o : BOp} {k : Nat} (hk : o.off = (k : Int)) (h1 : o.kind = 1) (hn : k + o.data.length ≤ n) : (vol n f).take k ++ o.data ++ (vol n f).drop (k + o.data.length) = vol n (doF f o) := by
  have hc : o.cnt = (o.data.length : Int) := by unfold BOp.cnt; rw [if_pos h1]
  refine vol_splice hn (fun i hi => ?_) (fun j hj => ?_) (fun i hi => ?_)
  · unfold doF; rw [if_neg (fun e => by have := BOp.at_iff.1 e; omega)]
  · unfold doF BOp.val
    rw [if_pos (BOp.at_iff.2 ⟨by omega, by omega⟩), if_pos h1, show (((k + j : Nat) : Int) - o.off).toNat = j by omega]
    simp [List.getD, List.getElem?_eq_getElem hj]
  · unfold doF; rw [if_neg (fun e => by have := BOp.at_iff.1 e; omega)]
theorem do_trim {n : Nat} {f : Int → Nat} {o : BOp} {k m : Nat} (hk : o.off = (k : Int)) (h1 : o.kind = 2) (hm : o.len = (m : Int)) (hn : k + m ≤ n) : (vol n f).take k ++ List.replicate m 0 ++ (vol n f).drop (k + m) = vol n (doF f o) := by
  have hc : o.cnt = (m : Int) := by unfold BOp.cnt; rw [if_neg (by omega), if_pos h1, hm]
  have hl : (List.replicate m 0).length = m := by simp
  have := vol_splice (n := n) (f := f) (g := doF f o) (o := k) (ds := List.replicate m 0) (by rw [hl]; exact hn) (fun i hi => ?_) (fun j hj => ?_) (fun i hi => ?_)
  · rwa [hl] at this
  · unfold doF; rw [if_neg (fun e => by have := BOp.at_iff.1 e; omega)]
  · rw [hl] at hj
    unfold doF BOp.val
    rw [if_pos (BOp.at_iff.2 ⟨by omega, by omega⟩), if_neg (by omega)]
    simp
  · rw [hl] at hi
    unfold doF; rw [if_neg (fun e => by have := BOp.at_iff.1 e; omega)]

/-! ### copy and clear, onto a row of the call's own -/
section
variable (w : World)
set_option maxRecDepth 100000 in
set_option maxHeartbeats 400000 in
theorem clone_ (A : Option Addr) (n c : Nat) (l : List Nat) (hr : Ns w A n l) (hA : A = none → n = 0 ∧ c = 0) (hnc : n ≤ c) (hc : c ≤ 9223372036854775807) (hnb : n * 8 ≤ 140737488355328) :
    Calls Try.prog 38 #[.slice A n c] w fun e w' => ∃ v, e = .returned v ∧ w'.ownsRow w.heap.size 64 1 v n (nvs l) ∧ Below w.heap.size w w' := by
  obtain ⟨i0, hi0, hz0, hz1, hz2⟩ := u64_info
  have Hz := Lib.hid hz2
  have Hl := Lib.hid hr.len
  clear hz2
  have hne := fun (w : World) (a : Option Addr) (n c : Nat) => Lib.run_eql_slice_nil (P := Try.prog) w 25 64 a n c 0 0 Try.underlying25
  cases A with
  | none =>
    obtain ⟨rfl, rfl⟩ := hA rfl
    have hx : l = [] := List.eq_nil_of_length_eq_zero (by rw [← Hl.out])
    subst hx
    go_enter Try.func38, Try.ntmps38
    go_wp2
    go_ret
    exact ⟨_, rfl, own_nil _ _ _ _, Below.refl _ _⟩
  | some a =>
    go_enter Try.func38, Try.ntmps38
    go_wp2_with (first
    | (at_builtin
       refine wpList_app _ rfl (.tmp 5) (.tmp 6) _ rfl w.heap.size 64 i0 (.int .u64 0) 1 8 Try.underlying25 hi0 hz0 hz1 Hz.out rfl Nat.one_pos (.slice (some ⟨w.heap.size, 0, none⟩) 0 0) 0 [] rfl (own_new w w.heap.size #[] 64 rfl (Nat.le_refl _) (by unfold maxLen; omega)) (some a) n c (nvs l) rfl (by simp) (hr.1.alloc _) (nvs_one l) (by unfold maxLen; omega) (by omega) (by simp) ?_
       intro v2 w2 hown2 hg2 hat2
       have hb2 : Below w.heap.size w w2 := ((Below.refl _ _).alloc (Nat.le_refl _) _).grown hg2 (by simp) (fun k hk => by simp [Value.ownBlock] at hk; omega)
       simp only [Nat.zero_add, List.nil_append] at hown2))
    go_ret
    exact ⟨_, rfl, hown2, hb2⟩
end
end Blo
end Go.Proofs.Ytdcggnfplfgcnaa
