/- Layer 14: which numbers, ops are the same: slices.Equal, blocks.Same, the document's Same of ops. -/
import Derived.Test.YtdcggnfplfgcnaaPlaG
set_option linter.all false
namespace Go.Proofs.Ytdcggnfplfgcnaa
open Go.RowKit
namespace Pla
open Blo (I64 Dat Sml FitB Opl dat_own ns_get cons_eq cons_ne drop_of)
open Sma (Pc Mp Mr mv runB run_mem)

theorem op_ne {x y : BOp} (h : ¬ x.kind = y.kind ∨ ¬ x.off = y.off ∨ ¬ x.len = y.len) : decide (x = y) = false := by
  rw [decide_eq_false_iff_not]
  rintro rfl
  simp at h
theorem op_data {x y : BOp} (h1 : x.kind = y.kind) (h2 : x.off = y.off) (h3 : x.len = y.len) : decide (x = y) = decide (x.data = y.data) := by
  obtain ⟨a, b, c, d⟩ := x
  obtain ⟨a', b', c', d'⟩ := y
  simp only at h1 h2 h3
  subst h1 h2 h3
  simp
section
variable (w : World)
set_option maxRecDepth 100000 in
set_option maxHeartbeats 2000000 in
theorem equal_ (A B : Option Addr) (n m c d : Nat) (a b : List Nat) (ha : Ns w A n a) (hb : Ns w B m b) (hn : n ≤ 9223372036854775807) (hm : m ≤ 9223372036854775807) :
    Calls Try.prog 62 #[.slice A n c, .slice B m d] w fun e w' => e = .returned (.bool (decide (a = b))) ∧ ∃ k, w' = w.drewN k := by
  have Han := Lib.hid ha.len
  have Hbm := Lib.hid hb.len
  obtain ⟨R, hR⟩ : ∃ R, decide (a = b) = R := ⟨_, rfl⟩
  rw [hR]
  by_cases hnm : n = m
  · subst hnm
    have t0 : ((n : Int) != (n : Int)) = false := by simp
    go_enter Try.func62, Try.ntmps62
    have HR := Lib.hid hR
    clear hR
    go_wp2_with fail
    go_loopw [13] (fun iv wr => ∃ (k j : Nat), k ≤ n ∧ iv = .int .i64 (k : Int) ∧ decide (a.drop k = b.drop k) = R ∧ wr = w.drewN j) (fun iv _ => n - (intOf iv).toNat)
    case atStart => exact ⟨0, 0, Nat.zero_le _, rfl, HR.out, rfl⟩
    case round =>
      obtain ⟨k, j, hk, rfl, hL, rfl⟩ := hrel
      by_cases hlt : k < n
      · have hil : (k : Int) < (n : Int) := by omega
        have hk0 : (0 : Int) ≤ (k : Int) := by omega
        obtain ⟨p, o, x, rfl, hx, cx⟩ := ns_get ha hlt
        obtain ⟨q, r, y, rfl, hy, cy⟩ := ns_get hb hlt
        rw [drop_of hx, drop_of hy] at hL
        clear ha hb hx hy
        by_cases hxy : x = y
        · subst hxy
          rw [cons_eq] at hL
          have HL := Lib.hid hL
          clear hL
          go_wp2_with fail
          go_quiet (fail)
          go_wp2
          go_roundw
          case rel => exact ⟨k + 1, _, by omega, by go_num, HL.out, rfl⟩
          case measure => simp [intOf]; omega
        · rw [cons_ne _ _ hxy] at hL
          subst hL
          have hxy2 : ((x : Int) == (y : Int)) = false := by simp; omega
          have hxy3 : ((x : Int) != (y : Int)) = true := by simp; omega
          clear hxy
          go_wp2_with fail
          go_quiet (fail)
          go_wp2
          go_ret
          exact ⟨rfl, j + nq, by simp⟩
      · have hin : (n : Int) ≤ (k : Int) := by omega
        have h1 : a.drop k = [] := List.drop_of_length_le (by have := Han.out; omega)
        have h2 : b.drop k = [] := List.drop_of_length_le (by have := Hbm.out; omega)
        rw [h1, h2] at hL
        have hL2 : true = R := by rw [← hL]; simp
        subst hL2
        clear h1 h2 hL
        go_wp2
        go_ret
        exact ⟨rfl, j, rfl⟩
  · have hR2 : R = false := by
      rw [← hR]
      simp only [decide_eq_false_iff_not]
      intro e
      exact hnm (by rw [Han.out, Hbm.out, e])
    subst hR2
    have h4 : ((n : Int) != (m : Int)) = true := by simp; omega
    clear hR hnm ha hb
    go_enter Try.func62, Try.ntmps62
    go_wp2
    go_ret
    exact ⟨rfl, 0, rfl⟩
theorem equal_at (n0 : Nat) (A B : Option Addr) (n m c d : Nat) (a b : List Nat) (ha : Ns w A n a) (hb : Ns w B m b) (hn : n ≤ 9223372036854775807) (hm : m ≤ 9223372036854775807) {R : Bool} (hR : decide (a = b) = R) :
    Calls Try.prog 62 #[.slice A n c, .slice B m d] (w.drewN n0) fun e w' => e = .returned (.bool R) ∧ ∃ k, w' = (w.drewN n0).drewN k := by
  rw [← hR]
  exact equal_ (w.drewN n0) A B n m c d a b (ha.drewN n0) (hb.drewN n0) hn hm
theorem words_g (n0 : Nat) (A B : Option Addr) (n m c d : Nat) (a b : List Nat) (ha : Ns w A n a) (hb : Ns w B m b) (hn : n ≤ 9223372036854775807) {R : Bool} (hR : decide (a = b) = R) :
    Calls Try.prog 21 #[.slice A n c, .slice B m d] (w.drewN n0) fun e w' => e = .returned (.bool R) ∧ ∃ k, w' = (w.drewN n0).drewN k := by
  rw [← hR]
  exact Blo.words_ (w.drewN n0) A B n m c d a b (ha.drewN n0) (hb.drewN n0) hn
/-! ### one op and another one: blocks.Same's closure -/
set_option maxRecDepth 100000 in
set_option maxHeartbeats 2000000 in
theorem oone_ (x y : BOp) (X Y : Option Addr) (m c p d : Nat) (dx : Dat w x X m c) (dy : Dat w y Y p d) :
    Calls Try.prog 61 #[oa x (.slice X m c), oa y (.slice Y p d)] w fun e w' => e = .returned (.bool (decide (x = y))) ∧ Below w.heap.size w w' := by
  have hb1 := (Below.refl w.heap.size w).alloc (Nat.le_refl _) (oo x (.slice X m c))
  have hb2 : Below w.heap.size w ((w.alloc (oo x (.slice X m c))).alloc (oo y (.slice Y p d))) := hb1.alloc (by simp) _
  have dx2 := dat_alloc (dat_alloc dx (oo x (.slice X m c))) (oo y (.slice Y p d))
  have dy2 := dat_alloc (dat_alloc dy (oo x (.slice X m c))) (oo y (.slice Y p d))
  have k1 : Blk ((w.alloc (oo x (.slice X m c))).alloc (oo y (.slice Y p d))) w.heap.size 27 #[.int .i64 x.kind, .int .i64 x.off, .int .i64 x.len, .slice X m c] := (Blk.new w _ _ rfl).alloc _
  have k2 : Blk ((w.alloc (oo x (.slice X m c))).alloc (oo y (.slice Y p d))) (w.heap.size + 1) 27 #[.int .i64 y.kind, .int .i64 y.off, .int .i64 y.len, .slice Y p d] := Blk.new _ _ _ (by simp)
  obtain ⟨m0, m1, m2, m3, -, -, -, -⟩ := cells4 k1
  obtain ⟨n0, n1, n2, n3, -, -, -, -⟩ := cells4 k2
  have hmx : m ≤ 9223372036854775807 := Nat.le_trans dx.le dx.cap
  have hpx : p ≤ 9223372036854775807 := Nat.le_trans dy.le dy.cap
  clear hb1 k1 k2 dx dy
  by_cases e1 : x.kind = y.kind
  · by_cases e2 : x.off = y.off
    · by_cases e3 : x.len = y.len
      · obtain ⟨R, hR⟩ : ∃ R, decide (x.data = y.data) = R := ⟨_, rfl⟩
        have HR := Lib.hid (show decide (x = y) = R by rw [op_data e1 e2 e3, hR])
        have HR2 := Lib.hid hR
        have t1 : (x.kind == y.kind) = true := by simpa using e1
        have t2 : (x.off == y.off) = true := by simpa using e2
        have t3 : (x.len == y.len) = true := by simpa using e3
        clear hR e1 e2 e3
        go_enter Try.func61, Try.ntmps61
        go_wp2_with fail
        refine (equal_ _ X Y m p c d x.data y.data dx2.ns dy2.ns hmx hpx).mono ?_
        rw [HR2.out]
        rintro e w2 ⟨rfl, k, rfl⟩
        go_wp2
        go_ret
        rw [HR.out]
        exact ⟨rfl, below_drewN hb2 _⟩
      · have HR := Lib.hid (op_ne (x := x) (y := y) (.inr (.inr e3)))
        have t1 : (x.kind == y.kind) = true := by simpa using e1
        have t2 : (x.off == y.off) = true := by simpa using e2
        have t3 : (x.len == y.len) = false := by simpa using e3
        clear e1 e2 e3
        go_enter Try.func61, Try.ntmps61
        go_wp2
        go_ret
        rw [HR.out]
        exact ⟨rfl, hb2⟩
    · have HR := Lib.hid (op_ne (x := x) (y := y) (.inr (.inl e2)))
      have t1 : (x.kind == y.kind) = true := by simpa using e1
      have t2 : (x.off == y.off) = false := by simpa using e2
      clear e1 e2
      go_enter Try.func61, Try.ntmps61
      go_wp2
      go_ret
      rw [HR.out]
      exact ⟨rfl, hb2⟩
  · have HR := Lib.hid (op_ne (x := x) (y := y) (.inl e1))
    have t1 : (x.kind == y.kind) = false := by simpa using e1
    clear e1
    go_enter Try.func61, Try.ntmps61
    go_wp2
    go_ret
    rw [HR.out]
    exact ⟨rfl, hb2⟩
set_option maxRecDepth 100000 in
set_option maxHeartbeats 2000000 in
theorem oeqf_ (A B : Option Addr) (n m c d : Nat) (l l' : List BOp) (ha : Opl w A n l) (hb : Opl w B m l') (hn : n ≤ 9223372036854775807) (hm : m ≤ 9223372036854775807) :
    Calls Try.prog 60 #[.slice A n c, .slice B m d, .func (.func 61) #[] #[]] w fun e w' => e = .returned (.bool (decide (l = l'))) ∧ Below w.heap.size w w' := by
  have Han := Lib.hid ha.len
  have Hbm := Lib.hid hb.len
  obtain ⟨R, hR⟩ : ∃ R, decide (l = l') = R := ⟨_, rfl⟩
  rw [hR]
  by_cases hnm : n = m
  · subst hnm
    have HR := Lib.hid hR
    clear hR
    have t0 : ((n : Int) != (n : Int)) = false := by simp
    go_enter Try.func60, Try.ntmps60
    go_wp2_with fail
    go_loopw [17] (fun iv wr => ∃ i : Nat, i ≤ n ∧ iv = .int .i64 (i : Int) ∧ Hid (decide (l.drop i = l'.drop i) = R) ∧ Below w.heap.size w wr) (fun iv _ => n - (intOf iv).toNat)
    case atStart => exact ⟨0, Nat.zero_le _, rfl, Lib.hid HR.out, Below.refl _ _⟩
    case round =>
      obtain ⟨i, hi, rfl, HL, hbw⟩ := hrel
      by_cases hlt : i < n
      · have hil : (i : Int) < (n : Int) := by omega
        have hi0 : (0 : Int) ≤ (i : Int) := by omega
        obtain ⟨p, o, X, xm, xc, x, rfl, hx, c0, c1, c2, c3, dx⟩ := (ha.below hbw).at_ hlt
        obtain ⟨q, r, Y, ym, yc, y, rfl, hy, d0, d1, d2, d3, dy⟩ := (hb.below hbw).at_ hlt
        have hL := HL.out
        rw [drop_of hx, drop_of hy] at hL
        have hba1 : Below wr.heap.size wr (wr.alloc (oo x (.slice X xm xc))) := (Below.refl _ _).alloc (Nat.le_refl _) _
        have g0 := (hba1.cell (cell_lt d0)).trans d0
        have g1 := (hba1.cell (cell_lt d1)).trans d1
        have g2 := (hba1.cell (cell_lt d2)).trans d2
        have g3 := (hba1.cell (cell_lt d3)).trans d3
        have hba : Below wr.heap.size wr ((wr.alloc (oo x (.slice X xm xc))).alloc (oo y (.slice Y ym yc))) := hba1.alloc (by simp) _
        have hB := below_step hbw hba (Nat.le_refl _)
        have dx2 := dx.below hba
        have dy2 := dy.below hba
        clear ha hb hx hy HL hba1
        have HC := Lib.hid hL
        clear hL
        go_wp2_with fail
        refine (oone_ _ x y X Y xm xc ym yc dx2 dy2).mono ?_
        rcases hxy : decide (x = y) with _ | _
        · rintro e w2 ⟨rfl, hb2⟩
          have HF := Lib.hid (show R = false by rw [← HC.out]; exact cons_ne _ _ (of_decide_eq_false hxy))
          go_wp2
          go_ret
          rw [HF.out]
          exact ⟨rfl, below_step hB hb2 (Nat.le_refl _)⟩
        · rintro e w2 ⟨rfl, hb2⟩
          have HF := Lib.hid (show decide (l.drop (i + 1) = l'.drop (i + 1)) = R by rw [← HC.out, of_decide_eq_true hxy, cons_eq])
          have hB2 := below_step hB hb2 (Nat.le_refl _)
          clear hxy
          go_wp2
          go_roundw
          case rel => exact ⟨i + 1, by omega, by go_num, HF, hB2⟩
          case measure => simp [intOf]; omega
      · have hin : (n : Int) ≤ (i : Int) := by omega
        have HF := Lib.hid (show R = true by rw [← HL.out, List.drop_of_length_le (by have := Han.out; omega), List.drop_of_length_le (by have := Hbm.out; omega)]; simp)
        go_wp2
        go_ret
        rw [HF.out]
        exact ⟨rfl, hbw⟩
  · have hR2 : R = false := by
      rw [← hR]
      simp only [decide_eq_false_iff_not]
      intro e
      exact hnm (by rw [Han.out, Hbm.out, e])
    subst hR2
    have h4 : ((n : Int) != (m : Int)) = true := by simp; omega
    clear hR hnm ha hb
    go_enter Try.func60, Try.ntmps60
    go_wp2
    go_ret
    exact ⟨rfl, Below.refl _ _⟩
set_option maxRecDepth 100000 in
theorem osame_ (A B : Option Addr) (n m c d : Nat) (l l' : List BOp) (ha : Opl w A n l) (hb : Opl w B m l') (hn : n ≤ 9223372036854775807) (hm : m ≤ 9223372036854775807) :
    Calls Try.prog 45 #[.slice A n c, .slice B m d] w fun e w' => e = .returned (.bool (decide (l = l'))) ∧ Below w.heap.size w w' := by
  generalize hR : decide (l = l') = R
  go_enter Try.func45, Try.ntmps45
  go_wp2_with fail
  refine (oeqf_ w A B n m c d l l' ha hb hn hm).mono ?_
  rw [hR]
  rintro e w2 ⟨rfl, hb2⟩
  go_wp2
  go_ret
  exact ⟨rfl, hb2⟩
end
end Pla
end Go.Proofs.Ytdcggnfplfgcnaa
