/- Layer 14: plan's plain and goesOn. -/
import Derived.Test.YtdcggnfplfgcnaaPlaL
set_option linter.all false
namespace Go.Proofs.Ytdcggnfplfgcnaa
open Go.RowKit
namespace Pla
open Blo (I64 Dat Sml FitB Opl dat_own ns_get cons_eq cons_ne drop_of)
open Sma (Pc Mp Mr mv runB run_mem)

theorem data_nil {w : World} {o : BOp} {X : Option Addr} {m c : Nat} (h : Dat w o X m c) : decide (o.data = []) = decide (m = 0) := by
  have := h.len
  cases hd : o.data with
  | nil => rw [hd] at this; simp [this]
  | cons a l => rw [hd] at this; simp at this; simp [this]
theorem from_any {o : BOp} : o.from_ = o.off ∨ (o.from_ = 0 ∧ o.cnt = 0 ∧ ¬ o.kind = 1 ∧ ¬ o.kind = 2) := by
  by_cases h1 : o.kind = 1
  · exact .inl (by unfold BOp.from_; rw [if_pos h1])
  · by_cases h2 : o.kind = 2
    · exact .inl (by unfold BOp.from_; rw [if_neg h1, if_pos h2])
    · exact .inr ⟨by unfold BOp.from_; rw [if_neg h1, if_neg h2], cnt_else h1 h2, h1, h2⟩
theorem cnt_i64 {w : World} {o : BOp} {X : Option Addr} {m c : Nat} (h : Dat w o X m c) : I64 o.cnt := by
  have hl := h.len
  have h8 := h.by8
  by_cases h1 : o.kind = 1
  · rw [cnt_write h1]; unfold I64; omega
  · by_cases h2 : o.kind = 2
    · rw [cnt_trim h2]; exact h.fit.len
    · rw [cnt_else h1 h2]; unfold I64; omega
/-- What goesOn tells, by the places that it looks at. -/
theorem goes_far {w o : BOp} (h : o.kind = w.kind) (hz : ¬ o.off = w.from_ + w.cnt) : goesB w o = false := by
  rcases from_any (o := w) with e | ⟨_, _, e1, e2⟩
  · rw [e] at hz; exact goes_no (.inr (.inr (.inr (.inl hz))))
  · exact goes_no (.inr (.inr (.inr (.inr (.inr (.inl (by rw [cnt_else (by omega) (by omega)]; omega)))))))
theorem goes_near {w o : BOp} (h : o.kind = w.kind) (h0 : 0 ≤ o.off) (h1 : o.off ≤ 1024) (hz : o.off = w.from_ + w.cnt) (hp : plainB o = true) (hc : 1 ≤ o.cnt) (hm : o.cnt ≤ 1024 - w.cnt) : goesB w o = true := by
  rcases from_any (o := w) with e | ⟨_, _, e1, e2⟩
  · rw [e] at hz; exact goes_of ⟨h, h0, h1, hz, hp, hc, hm⟩
  · rw [cnt_else (by omega) (by omega)] at hc; omega
section
variable (w : World)
set_option maxRecDepth 100000 in
set_option maxHeartbeats 1000000 in
theorem plain_ (o : BOp) (X : Option Addr) (m c : Nat) (h : Dat w o X m c) :
    Calls Try.prog 64 #[oa o (.slice X m c)] w fun e w' => e = .returned (.bool (plainB o)) ∧ Below w.heap.size w w' := by
  have hb := (Below.refl w.heap.size w).alloc (Nat.le_refl _) (oo o (.slice X m c))
  have hd := data_nil h
  by_cases h1 : o.kind = 1
  · by_cases h2 : o.len = 0
    · have HP := Lib.hid (show plainB o = true by rw [plain_write h1]; simp [h2])
      have t1 : (o.kind == 1) = true := by simpa using h1
      have t2 : (o.len == 0) = true := by simpa using h2
      clear h hd h1 h2
      go_enter Try.func64, Try.ntmps64
      go_wp2
      go_ret
      rw [HP.out]
      exact ⟨rfl, hb⟩
    · have HP := Lib.hid (show plainB o = false by rw [plain_write h1]; simp [h2])
      have t1 : (o.kind == 1) = true := by simpa using h1
      have t2 : (o.len == 0) = false := by simpa using h2
      clear h hd h1 h2
      go_enter Try.func64, Try.ntmps64
      go_wp2
      go_ret
      rw [HP.out]
      exact ⟨rfl, hb⟩
  · by_cases h2 : m = 0
    · have HP := Lib.hid (show plainB o = true by rw [plain_else h1, hd]; simp [h2])
      have t1 : (o.kind == 1) = false := by simpa using h1
      have t2 : ((m : Int) == 0) = true := by simp [h2]
      clear h hd h1 h2
      go_enter Try.func64, Try.ntmps64
      go_wp2
      go_ret
      rw [HP.out]
      exact ⟨rfl, hb⟩
    · have HP := Lib.hid (show plainB o = false by rw [plain_else h1, hd]; simp [h2])
      have t1 : (o.kind == 1) = false := by simpa using h1
      have t2 : ((m : Int) == 0) = false := by simp [h2]
      clear h hd h1 h2
      go_enter Try.func64, Try.ntmps64
      go_wp2
      go_ret
      rw [HP.out]
      exact ⟨rfl, hb⟩
set_option maxRecDepth 100000 in
set_option maxHeartbeats 2000000 in
theorem goesOn_ (u o : BOp) (U X : Option Addr) (n d m c : Nat) (hu : Dat w u U n d) (hm : Mid u) (h : Dat w o X m c) :
    Calls Try.prog 49 #[oa u (.slice U n d), oa o (.slice X m c)] w fun e w' => e = .returned (.bool (goesB u o)) ∧ Below w.heap.size w w' := by
  have hb1 := (Below.refl w.heap.size w).alloc (Nat.le_refl _) (oo u (.slice U n d))
  have hb2 : Below w.heap.size w ((w.alloc (oo u (.slice U n d))).alloc (oo o (.slice X m c))) := hb1.alloc (by simp) _
  have hu2 := dat_alloc (dat_alloc hu (oo u (.slice U n d))) (oo o (.slice X m c))
  have hd2 := dat_alloc (dat_alloc h (oo u (.slice U n d))) (oo o (.slice X m c))
  have k1 : Blk ((w.alloc (oo u (.slice U n d))).alloc (oo o (.slice X m c))) w.heap.size 27 #[.int .i64 u.kind, .int .i64 u.off, .int .i64 u.len, .slice U n d] := (Blk.new w _ _ rfl).alloc _
  have k2 : Blk ((w.alloc (oo u (.slice U n d))).alloc (oo o (.slice X m c))) (w.heap.size + 1) 27 #[.int .i64 o.kind, .int .i64 o.off, .int .i64 o.len, .slice X m c] := Blk.new _ _ _ (by simp)
  obtain ⟨m0, m1, m2, m3, -, -, -, -⟩ := cells4 k1
  have hci := cnt_i64 h
  obtain ⟨ok, oof, ol⟩ := h.fit.all
  obtain ⟨uk, uof, ul⟩ := hu.fit.all
  have hml := hm.low
  have hmh := hm.high
  have hw1 : IntKind.i64.wrap (u.from_ + u.cnt) = u.from_ + u.cnt := by
    rw [IntKind.wrap_i64]
    rcases from_any (o := u) with e | ⟨e, _⟩
    · rw [e]
      rcases hm.off with e2 | e2 <;> omega
    · rw [e]; omega
  have hw2 : IntKind.i64.wrap (1024 - u.cnt) = 1024 - u.cnt := by rw [IntKind.wrap_i64]; omega
  unfold I64 at hci
  clear hb1 hu h hm
  go_enter Try.func49, Try.ntmps49
  go_wp2_with fail
  refine (Blo.range_ _ u U n d hu2).mono ?_
  rintro e w2 ⟨rfl, hb3⟩
  have hB3 := below_step hb2 hb3 (Nat.le_refl _)
  clear m0 m1 m2 m3
  obtain ⟨n0, n1, n2, n3, -, -, -, -⟩ := cells4 (k2.keep hb3)
  have hd3 := hd2.below hb3
  go_wp2_with fail
  refine (Blo.range_ _ o X m c hd3).mono ?_
  rintro e w3 ⟨rfl, hb4⟩
  have hb34 := below_step hb3 hb4 (Nat.le_refl _)
  have hB4 := below_step hB3 hb4 (Nat.le_refl _)
  clear n0 n1 n2 n3
  obtain ⟨m0, m1, m2, m3, -, -, -, -⟩ := cells4 (k1.keep hb34)
  obtain ⟨n0, n1, n2, n3, -, -, -, -⟩ := cells4 (k2.keep hb34)
  have hd4 := hd3.below hb4
  clear k1 k2 hu2 hd2 hd3 hb3 hb4 hb34 hB3 hb2
  by_cases h1 : o.kind = u.kind
  · have t1 : (o.kind != u.kind) = false := by simpa using h1
    by_cases h2 : o.off < 0
    · have HG := Lib.hid (goes_no (w := u) (o := o) (.inr (.inl h2)))
      clear h1 hd4
      go_wp2
      go_ret
      rw [HG.out]
      exact ⟨rfl, hB4⟩
    by_cases h3 : 1024 < o.off
    · have HG := Lib.hid (goes_no (w := u) (o := o) (.inr (.inr (.inl h3))))
      clear h1 hd4
      go_wp2
      go_ret
      rw [HG.out]
      exact ⟨rfl, hB4⟩
    by_cases h4 : o.off = u.from_ + u.cnt
    · have t4 : (o.off != u.from_ + u.cnt) = false := by simpa using h4
      cases h5 : plainB o with
      | false =>
        have HG := Lib.hid (goes_no (w := u) (o := o) (.inr (.inr (.inr (.inr (.inl h5))))))
        clear h1 h4
        go_wp2_with fail
        refine (plain_ _ o X m c hd4).mono ?_
        rw [h5]
        rintro e w5 ⟨rfl, hb5⟩
        go_wp2
        go_ret
        rw [HG.out]
        exact ⟨rfl, below_step hB4 hb5 (Nat.le_refl _)⟩
      | true =>
        by_cases h6 : 1 ≤ o.cnt
        · by_cases h7 : o.cnt ≤ 1024 - u.cnt
          · have HG := Lib.hid (goes_near h1 (by omega) (by omega) h4 h5 h6 h7)
            clear h1 h4
            go_wp2_with fail
            refine (plain_ _ o X m c hd4).mono ?_
            rw [h5]
            rintro e w5 ⟨rfl, hb5⟩
            go_wp2
            go_ret
            rw [HG.out]
            exact ⟨by first | rfl | simp [h7], below_step hB4 hb5 (Nat.le_refl _)⟩
          · have HG := Lib.hid (goes_no (w := u) (o := o) (.inr (.inr (.inr (.inr (.inr (.inr (by omega))))))))
            clear h1 h4
            go_wp2_with fail
            refine (plain_ _ o X m c hd4).mono ?_
            rw [h5]
            rintro e w5 ⟨rfl, hb5⟩
            go_wp2
            go_ret
            rw [HG.out]
            exact ⟨by first | rfl | simp [h7], below_step hB4 hb5 (Nat.le_refl _)⟩
        · have HG := Lib.hid (goes_no (w := u) (o := o) (.inr (.inr (.inr (.inr (.inr (.inl (by omega))))))))
          clear h1 h4
          go_wp2_with fail
          refine (plain_ _ o X m c hd4).mono ?_
          rw [h5]
          rintro e w5 ⟨rfl, hb5⟩
          go_wp2
          go_ret
          rw [HG.out]
          exact ⟨rfl, below_step hB4 hb5 (Nat.le_refl _)⟩
    · have HG := Lib.hid (goes_far h1 h4)
      have t4 : (o.off != u.from_ + u.cnt) = true := by simpa using h4
      clear h1 h4 hd4
      go_wp2
      go_ret
      rw [HG.out]
      exact ⟨rfl, hB4⟩
  · have HG := Lib.hid (goes_no (w := u) (o := o) (.inl h1))
    have t1 : (o.kind != u.kind) = true := by simpa using h1
    clear h1 hd4
    go_wp2
    go_ret
    rw [HG.out]
    exact ⟨rfl, hB4⟩
end
end Pla
end Go.Proofs.Ytdcggnfplfgcnaa
