/- Layer 14: the document's Same of ops, of any two lists. -/
import Derived.Test.YtdcggnfplfgcnaaPlaH
set_option linter.all false
namespace Go.Proofs.Ytdcggnfplfgcnaa
open Go.RowKit
namespace Pla
open Blo (I64 Dat Sml FitB Opl dat_own ns_get cons_eq cons_ne drop_of)
open Sma (Pc Mp Mr mv runB run_mem)

section
variable (w : World)
set_option maxRecDepth 100000 in
set_option maxHeartbeats 4000000 in
theorem rosame_ (A B : Option Addr) (n m c d : Nat) (l l' : List BOp) (ha : Opl w A n l) (hb : Opl w B m l') (hn : n ≤ 9223372036854775807) (hm : m ≤ 9223372036854775807) :
    Calls Try.prog 25 #[.slice A n c, .slice B m d] w fun e w' => e = .returned (.bool (decide (l = l'))) ∧ ∃ k, w' = w.drewN k := by
  have Han := Lib.hid ha.len
  have Hbm := Lib.hid hb.len
  obtain ⟨R, hR⟩ : ∃ R, decide (l = l') = R := ⟨_, rfl⟩
  rw [hR]
  by_cases hnm : n = m
  · subst hnm
    have HR := Lib.hid hR
    clear hR
    have t0 : ((n : Int) != (n : Int)) = false := by simp
    go_enter Try.func25, Try.ntmps25
    go_wp2_with fail
    go_loopw [5] (fun iv wr => ∃ (k j : Nat), k ≤ n ∧ iv = .int .i64 (k : Int) ∧ Hid (decide (l.drop k = l'.drop k) = R) ∧ wr = w.drewN j) (fun iv _ => n - (intOf iv).toNat)
    case atStart => exact ⟨0, 0, Nat.zero_le _, rfl, Lib.hid HR.out, rfl⟩
    case round =>
      obtain ⟨k, j, hk, rfl, HL, hwr⟩ := hrel
      have Hwr := Lib.hid hwr
      have haw : Opl wr A n l := by rw [hwr]; exact ha.drewN j
      have hbw : Opl wr B n l' := by rw [hwr]; exact hb.drewN j
      clear hwr
      by_cases hlt : k < n
      · have hil : (k : Int) < (n : Int) := by omega
        have hk0 : (0 : Int) ≤ (k : Int) := by omega
        obtain ⟨p, o, X, xm, xc, x, rfl, hx, c0, c1, c2, c3, dx⟩ := haw.at_ hlt
        obtain ⟨q, r, Y, ym, yc, y, rfl, hy, d0, d1, d2, d3, dy⟩ := hbw.at_ hlt
        have hL := HL.out
        rw [drop_of hx, drop_of hy] at hL
        have HC := Lib.hid hL
        have hxm : xm ≤ 9223372036854775807 := Nat.le_trans dx.le dx.cap
        clear ha hb hx hy haw hbw HL hL
        by_cases e1 : x.kind = y.kind
        · by_cases e2 : x.off = y.off
          · by_cases e3 : x.len = y.len
            · rcases hxy : decide (x.data = y.data) with _ | _
              · have HF := Lib.hid (show R = false by rw [← HC.out]; exact cons_ne _ _ (of_decide_eq_false (by rw [op_data e1 e2 e3, hxy])))
                have HR2 := Lib.hid hxy
                have t1 : (x.kind != y.kind) = false := by simpa using e1
                have t2 : (x.off != y.off) = false := by simpa using e2
                have t3 : (x.len != y.len) = false := by simpa using e3
                clear hxy e1 e2 e3
                go_wp2_with fail
                go_quiet (first
                  | (go_at_call 21; exact Calls.quiet_of (words_g wr _ X Y xm ym xc yc x.data y.data dx.ns dy.ns hxm HR2.out)))
                go_wp2
                go_ret
                rw [HF.out]
                exact ⟨rfl, j + nq, by rw [Hwr.out]; simp⟩
              · have HF := Lib.hid (show decide (l.drop (k + 1) = l'.drop (k + 1)) = R by rw [← HC.out, of_decide_eq_true (show decide (x = y) = true by rw [op_data e1 e2 e3, hxy]), cons_eq])
                have HR2 := Lib.hid hxy
                have t1 : (x.kind != y.kind) = false := by simpa using e1
                have t2 : (x.off != y.off) = false := by simpa using e2
                have t3 : (x.len != y.len) = false := by simpa using e3
                clear hxy e1 e2 e3
                go_wp2_with fail
                go_quiet (first
                  | (go_at_call 21; exact Calls.quiet_of (words_g wr _ X Y xm ym xc yc x.data y.data dx.ns dy.ns hxm HR2.out)))
                go_wp2
                go_roundw
                case rel => exact ⟨k + 1, j + nq, by omega, by go_num, HF, by rw [Hwr.out]; simp⟩
                case measure => simp [intOf]; omega
            · have HF := Lib.hid (show R = false by rw [← HC.out]; exact cons_ne _ _ (of_decide_eq_false (op_ne (.inr (.inr e3)))))
              have t1 : (x.kind != y.kind) = false := by simpa using e1
              have t2 : (x.off != y.off) = false := by simpa using e2
              have t3 : (x.len != y.len) = true := by simpa using e3
              clear e1 e2 e3
              go_wp2_with fail
              go_quiet (fail)
              go_wp2
              go_ret
              rw [HF.out]
              exact ⟨rfl, j + nq, by rw [Hwr.out]; simp⟩
          · have HF := Lib.hid (show R = false by rw [← HC.out]; exact cons_ne _ _ (of_decide_eq_false (op_ne (.inr (.inl e2)))))
            have t1 : (x.kind != y.kind) = false := by simpa using e1
            have t2 : (x.off != y.off) = true := by simpa using e2
            clear e1 e2
            go_wp2_with fail
            go_quiet (fail)
            go_wp2
            go_ret
            rw [HF.out]
            exact ⟨rfl, j + nq, by rw [Hwr.out]; simp⟩
        · have HF := Lib.hid (show R = false by rw [← HC.out]; exact cons_ne _ _ (of_decide_eq_false (op_ne (.inl e1))))
          have t1 : (x.kind != y.kind) = true := by simpa using e1
          clear e1
          go_wp2_with fail
          go_quiet (fail)
          go_wp2
          go_ret
          rw [HF.out]
          exact ⟨rfl, j + nq, by rw [Hwr.out]; simp⟩
      · have hin : (n : Int) ≤ (k : Int) := by omega
        have HF := Lib.hid (show R = true by rw [← HL.out, List.drop_of_length_le (by have := Han.out; omega), List.drop_of_length_le (by have := Hbm.out; omega)]; simp)
        go_wp2
        go_ret
        rw [HF.out]
        exact ⟨rfl, j, Hwr.out⟩
  · have hR2 : R = false := by
      rw [← hR]
      simp only [decide_eq_false_iff_not]
      intro e
      exact hnm (by rw [Han.out, Hbm.out, e])
    subst hR2
    have h4 : ((n : Int) != (m : Int)) = true := by simp; omega
    clear hR hnm ha hb
    go_enter Try.func25, Try.ntmps25
    go_wp2
    go_ret
    exact ⟨rfl, 0, rfl⟩
end
end Pla
end Go.Proofs.Ytdcggnfplfgcnaa
