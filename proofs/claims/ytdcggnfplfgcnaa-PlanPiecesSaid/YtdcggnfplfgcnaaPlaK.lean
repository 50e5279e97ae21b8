/- Layer 14: plan's Same; which data fit parts. -/
import Derived.Test.YtdcggnfplfgcnaaPlaI
set_option linter.all false
namespace Go.Proofs.Ytdcggnfplfgcnaa
open Go.RowKit
namespace Pla
open Blo (I64 Dat Sml FitB Opl dat_own ns_get cons_eq cons_ne drop_of)
open Sma (Pc Mp Mr mv runB run_mem)

abbrev pa (q : Pt) (d : Value) : Value := .agg #[.int .i64 q.pc, .int .i64 q.nd, .int .i64 q.op.kind, .int .i64 q.op.off, .int .i64 q.op.len, d]
theorem ptk_ne {x y : Pt} (h : ¬ x.pc = y.pc ∨ ¬ x.nd = y.nd) : decide (x = y) = false := by
  rw [decide_eq_false_iff_not]
  rintro rfl
  simp at h
theorem ptk_op {x y : Pt} (h1 : x.pc = y.pc) (h2 : x.nd = y.nd) : decide (x = y) = decide ([x.op] = [y.op]) := by
  obtain ⟨a, b, c⟩ := x
  obtain ⟨a', b', c'⟩ := y
  simp only at h1 h2
  subst h1 h2
  simp
theorem cells6 {w : World} {b : Nat} {t : TypeId} {u0 u1 u2 u3 u4 u5 : Value} (h : Blk w b t #[u0, u1, u2, u3, u4, u5]) : w.cell? ⟨b, 0, none⟩ = some u0 ∧ w.cell? ⟨b, 1, none⟩ = some u1 ∧ w.cell? ⟨b, 2, none⟩ = some u2 ∧ w.cell? ⟨b, 3, none⟩ = some u3 ∧ w.cell? ⟨b, 4, none⟩ = some u4 ∧ w.cell? ⟨b, 5, none⟩ = some u5 :=
  ⟨h.cell rfl, h.cell rfl, h.cell rfl, h.cell rfl, h.cell rfl, h.cell rfl⟩
theorem one_le_ : 1 ≤ 9223372036854775807 := by omega
section
variable (w : World)
set_option maxRecDepth 100000 in
set_option maxHeartbeats 2000000 in
theorem pone_ (x y : Pt) (X Y : Option Addr) (m c p d : Nat) (dx : Dat w x.op X m c) (dy : Dat w y.op Y p d) :
    Calls Try.prog 44 #[pa x (.slice X m c), pa y (.slice Y p d)] w fun e w' => e = .returned (.bool (decide (x = y))) ∧ Below w.heap.size w w' := by
  have hb1 := (Below.refl w.heap.size w).alloc (Nat.le_refl _) (pto x (.slice X m c) 67)
  have hb2 : Below w.heap.size w ((w.alloc (pto x (.slice X m c) 67)).alloc (pto y (.slice Y p d) 67)) := hb1.alloc (by simp) _
  have dx2 := dx.below hb2
  have dy2 := dy.below hb2
  have k1 : Blk ((w.alloc (pto x (.slice X m c) 67)).alloc (pto y (.slice Y p d) 67)) w.heap.size 67 #[.int .i64 x.pc, .int .i64 x.nd, .int .i64 x.op.kind, .int .i64 x.op.off, .int .i64 x.op.len, .slice X m c] := (Blk.new w _ _ rfl).alloc _
  have k2 : Blk ((w.alloc (pto x (.slice X m c) 67)).alloc (pto y (.slice Y p d) 67)) (w.heap.size + 1) 67 #[.int .i64 y.pc, .int .i64 y.nd, .int .i64 y.op.kind, .int .i64 y.op.off, .int .i64 y.op.len, .slice Y p d] := Blk.new _ _ _ (by simp)
  obtain ⟨m0, m1, m2, m3, m4, m5⟩ := cells6 k1
  obtain ⟨n0, n1, n2, n3, n4, n5⟩ := cells6 k2
  by_cases e1 : x.pc = y.pc
  · by_cases e2 : x.nd = y.nd
    · obtain ⟨R, hR⟩ : ∃ R, decide ([x.op] = [y.op]) = R := ⟨_, rfl⟩
      have HR := Lib.hid (show decide (x = y) = R by rw [ptk_op e1 e2, hR])
      have HR2 := Lib.hid hR
      have t1 : (x.pc == y.pc) = true := by simpa using e1
      have t2 : (x.nd == y.nd) = true := by simpa using e2
      have hsz : ((w.alloc (pto x (.slice X m c) 67)).alloc (pto y (.slice Y p d) 67)).heap.size = w.heap.size + 2 := by simp
      have h3 : Below w.heap.size w (((w.alloc (pto x (.slice X m c) 67)).alloc (pto y (.slice Y p d) 67)).alloc (oo x.op (.slice X m c))) := hb2.alloc (by simp; omega) _
      have h4 : Below w.heap.size w ((((w.alloc (pto x (.slice X m c) 67)).alloc (pto y (.slice Y p d) 67)).alloc (oo x.op (.slice X m c))).alloc (oo y.op (.slice Y p d))) := h3.alloc (by simp; omega) _
      have OX : Opl ((((w.alloc (pto x (.slice X m c) 67)).alloc (pto y (.slice Y p d) 67)).alloc (oo x.op (.slice X m c))).alloc (oo y.op (.slice Y p d))) (some ⟨w.heap.size + 2, 0, none⟩) 1 [x.op] := (Blo.os_new1 (by simp) dx2).below ((Below.refl _ _).alloc (Nat.le_refl _) _)
      have OY : Opl ((((w.alloc (pto x (.slice X m c) 67)).alloc (pto y (.slice Y p d) 67)).alloc (oo x.op (.slice X m c))).alloc (oo y.op (.slice Y p d))) (some ⟨w.heap.size + 3, 0, none⟩) 1 [y.op] := Blo.os_new1 (by simp) (dy.below h3)
      clear hR e1 e2 k1 k2 dx dy dx2 dy2 hb1
      go_enter Try.func44, Try.ntmps44
      go_wp2_with fail
      refine (osame_ _ _ _ 1 1 1 1 [x.op] [y.op] OX OY one_le_ one_le_).mono ?_
      rw [HR2.out]
      rintro e w3 ⟨rfl, hb5⟩
      go_wp2
      go_ret
      rw [HR.out]
      exact ⟨rfl, below_step h4 hb5 (Nat.le_refl _)⟩
    · have HR := Lib.hid (ptk_ne (x := x) (y := y) (.inr e2))
      have t1 : (x.pc == y.pc) = true := by simpa using e1
      have t2 : (x.nd == y.nd) = false := by simpa using e2
      clear e1 e2 k1 k2
      go_enter Try.func44, Try.ntmps44
      go_wp2
      go_ret
      rw [HR.out]
      exact ⟨rfl, hb2⟩
  · have HR := Lib.hid (ptk_ne (x := x) (y := y) (.inl e1))
    have t1 : (x.pc == y.pc) = false := by simpa using e1
    clear e1 k1 k2
    go_enter Try.func44, Try.ntmps44
    go_wp2
    go_ret
    rw [HR.out]
    exact ⟨rfl, hb2⟩
set_option maxRecDepth 100000 in
set_option maxHeartbeats 2000000 in
theorem peqf_ (A B : Option Addr) (n m c d : Nat) (L L' : List (Pt × Value)) (ha : Ptl w A n L) (hb : Ptl w B m L') (hn : n ≤ 9223372036854775807) (hm : m ≤ 9223372036854775807) :
    Calls Try.prog 43 #[.slice A n c, .slice B m d, .func (.func 44) #[] #[]] w fun e w' => e = .returned (.bool (decide (L.map Prod.fst = L'.map Prod.fst))) ∧ Below w.heap.size w w' := by
  have Han := Lib.hid ha.len
  have Hbm := Lib.hid hb.len
  obtain ⟨R, hR⟩ : ∃ R, decide (L.map Prod.fst = L'.map Prod.fst) = R := ⟨_, rfl⟩
  rw [hR]
  by_cases hnm : n = m
  · subst hnm
    have HR := Lib.hid hR
    clear hR
    have t0 : ((n : Int) != (n : Int)) = false := by simp
    go_enter Try.func43, Try.ntmps43
    go_wp2_with fail
    go_loopw [17] (fun iv wr => ∃ i : Nat, i ≤ n ∧ iv = .int .i64 (i : Int) ∧ Hid (decide ((L.drop i).map Prod.fst = (L'.drop i).map Prod.fst) = R) ∧ Below w.heap.size w wr) (fun iv _ => n - (intOf iv).toNat)
    case atStart => exact ⟨0, Nat.zero_le _, rfl, Lib.hid HR.out, Below.refl _ _⟩
    case round =>
      obtain ⟨i, hi, rfl, HL, hbw⟩ := hrel
      by_cases hlt : i < n
      · have hil : (i : Int) < (n : Int) := by omega
        have hi0 : (0 : Int) ≤ (i : Int) := by omega
        obtain ⟨p, o, x, X, xm, xc, rfl, hx, -, -, dx, c0, c1, c2, c3, c4, c5⟩ := (ha.below hbw).at_ hlt
        obtain ⟨q, r, y, Y, ym, yc, rfl, hy, -, -, dy, d0, d1, d2, d3, d4, d5⟩ := (hb.below hbw).at_ hlt
        have hL := HL.out
        rw [drop_of hx, drop_of hy, List.map_cons, List.map_cons] at hL
        simp only at hL
        have HC := Lib.hid hL
        have hba1 : Below wr.heap.size wr (wr.alloc (pto x (.slice X xm xc) 67)) := (Below.refl _ _).alloc (Nat.le_refl _) _
        have g0 := (hba1.cell (cell_lt d0)).trans d0
        have g1 := (hba1.cell (cell_lt d1)).trans d1
        have g2 := (hba1.cell (cell_lt d2)).trans d2
        have g3 := (hba1.cell (cell_lt d3)).trans d3
        have g4 := (hba1.cell (cell_lt d4)).trans d4
        have g5 := (hba1.cell (cell_lt d5)).trans d5
        have hba : Below wr.heap.size wr ((wr.alloc (pto x (.slice X xm xc) 67)).alloc (pto y (.slice Y ym yc) 67)) := hba1.alloc (by simp) _
        have hB := below_step hbw hba (Nat.le_refl _)
        have dx2 := dx.below hba
        have dy2 := dy.below hba
        clear ha hb hx hy HL hL hba1
        go_wp2_with fail
        refine (pone_ _ x y X Y xm xc ym yc dx2 dy2).mono ?_
        rcases hxy : decide (x = y) with _ | _
        · rintro e w2 ⟨rfl, hb2⟩
          have HF := Lib.hid (show R = false by rw [← HC.out]; exact cons_ne _ _ (of_decide_eq_false hxy))
          go_wp2
          go_ret
          rw [HF.out]
          exact ⟨rfl, below_step hB hb2 (Nat.le_refl _)⟩
        · rintro e w2 ⟨rfl, hb2⟩
          have HF := Lib.hid (show decide ((L.drop (i + 1)).map Prod.fst = (L'.drop (i + 1)).map Prod.fst) = R by rw [← HC.out, of_decide_eq_true hxy, cons_eq])
          have hB2 := below_step hB hb2 (Nat.le_refl _)
          clear hxy
          go_wp2
          go_roundw
          case rel => exact ⟨i + 1, by omega, by go_num, HF, hB2⟩
          case measure => simp [intOf]; omega
      · have hin : (n : Int) ≤ (i : Int) := by omega
        have HF := Lib.hid (show R = true by rw [← HL.out, List.drop_of_length_le (by have := Han.out; omega), List.drop_of_length_le (by have := Hbm.out; omega)]; simp)
        go_wp2
        go_ret
        rw [HF.out]
        exact ⟨rfl, hbw⟩
  · have hR2 : R = false := by
      rw [← hR]
      simp only [decide_eq_false_iff_not]
      intro e
      have := congrArg List.length e
      rw [List.length_map, List.length_map] at this
      exact hnm (by rw [Han.out, Hbm.out, this])
    subst hR2
    have h4 : ((n : Int) != (m : Int)) = true := by simp; omega
    clear hR hnm ha hb
    go_enter Try.func43, Try.ntmps43
    go_wp2
    go_ret
    exact ⟨rfl, Below.refl _ _⟩
set_option maxRecDepth 100000 in
theorem psame_ (A B : Option Addr) (n m c d : Nat) (L L' : List (Pt × Value)) (ha : Ptl w A n L) (hb : Ptl w B m L') (hn : n ≤ 9223372036854775807) (hm : m ≤ 9223372036854775807) :
    Calls Try.prog 17 #[.slice A n c, .slice B m d] w fun e w' => e = .returned (.bool (decide (L.map Prod.fst = L'.map Prod.fst))) ∧ Below w.heap.size w w' := by
  generalize hR : decide (L.map Prod.fst = L'.map Prod.fst) = R
  go_enter Try.func17, Try.ntmps17
  go_wp2_with fail
  refine (peqf_ w A B n m c d L L' ha hb hn hm).mono ?_
  rw [hR]
  rintro e w2 ⟨rfl, hb2⟩
  go_wp2
  go_ret
  exact ⟨rfl, hb2⟩
end
end Pla
end Go.Proofs.Ytdcggnfplfgcnaa
