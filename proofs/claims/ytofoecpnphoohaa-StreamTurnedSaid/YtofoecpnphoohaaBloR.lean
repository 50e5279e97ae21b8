/- Layer 8: the document's Words and Same. -/
import Derived.Test.YtofoecpnphoohaaBloD
set_option linter.all false
namespace Go.Proofs.Ytofoecpnphoohaa
open Go.RowKit
namespace Blo

theorem ns_get {w : World} {A : Option Addr} {n : Nat} {v : List Nat} (h : Ns w A n v) {i : Nat} (hi : i < n) : ∃ b o x, A = some ⟨b, o, none⟩ ∧ v[i]? = some x ∧ w.cell? ⟨b, o + i, none⟩ = some (.int .u64 (x : Int)) := by
  obtain ⟨b, o, e, hx, hc, _⟩ := h.at_ hi
  exact ⟨b, o, v[i], e, List.getElem?_eq_getElem hx, hc⟩
theorem cons_eq {α : Type} [DecidableEq α] (x : α) (l r : List α) : decide (x :: l = x :: r) = decide (l = r) := by simp
theorem cons_ne {α : Type} [DecidableEq α] {x y : α} (l r : List α) (h : x ≠ y) : decide (x :: l = y :: r) = false := by simp [h]
section
variable (w : World)
set_option maxRecDepth 100000 in
set_option maxHeartbeats 2000000 in
theorem words_ (A B : Option Addr) (n m c d : Nat) (a b : List Nat) (ha : Ns w A n a) (hb : Ns w B m b) (hn : n ≤ 9223372036854775807) :
    Calls Try.prog 18 #[.slice A n c, .slice B m d] w fun e w' => e = .returned (.bool (decide (a = b))) ∧ ∃ k, w' = w.drewN k := by
  have Han := Lib.hid ha.len
  have Hbm := Lib.hid hb.len
  obtain ⟨R, hR⟩ : ∃ R, decide (a = b) = R := ⟨_, rfl⟩
  rw [hR]
  by_cases hnm : n = m
  · subst hnm
    go_enter Try.func18, Try.ntmps18
    have HR := Lib.hid hR
    clear hR
    go_wp2_with fail
    go_loopw [5] (fun iv wr => ∃ (k j : Nat), k ≤ n ∧ iv = .int .i64 (k : Int) ∧ decide (a.drop k = b.drop k) = R ∧ wr = w.drewN j) (fun iv _ => n - (intOf iv).toNat)
    case atStart => exact ⟨0, 0, Nat.zero_le _, rfl, HR.out, rfl⟩
    case round =>
      obtain ⟨k, j, hk, rfl, hL, rfl⟩ := hrel
      by_cases hlt : k < n
      · have hil : (k : Int) < (n : Int) := by omega
        have hk0 : (0 : Int) ≤ (k : Int) := by omega
        obtain ⟨p, o, x, rfl, hx, cx⟩ := ns_get ha hlt
        obtain ⟨q, r, y, rfl, hy, cy⟩ := ns_get hb hlt
        rw [drop_of hx, drop_of hy] at hL
        clear ha hb hx hy
        by_cases hxy : x = y
        · subst hxy
          rw [cons_eq] at hL
          have HL := Lib.hid hL
          clear hL
          go_wp2_with fail
          go_quiet (fail)
          go_wp2
          go_roundw
          case rel => exact ⟨k + 1, _, by omega, by go_num, HL.out, rfl⟩
          case measure => simp [intOf]; omega
        · rw [cons_ne _ _ hxy] at hL
          subst hL
          have hxy2 : ((x : Int) == (y : Int)) = false := by simp; omega
          have hxy3 : ((x : Int) != (y : Int)) = true := by simp; omega
          clear hxy
          go_wp2_with fail
          go_quiet (fail)
          go_wp2
          go_ret
          exact ⟨rfl, j + nq, by simp⟩
      · have hin : (n : Int) ≤ (k : Int) := by omega
        have h1 : a.drop k = [] := List.drop_of_length_le (by have := Han.out; omega)
        have h2 : b.drop k = [] := List.drop_of_length_le (by have := Hbm.out; omega)
        rw [h1, h2] at hL
        have hL2 : true = R := by rw [← hL]; simp
        subst hL2
        clear h1 h2 hL
        go_wp2
        go_ret
        exact ⟨rfl, j, rfl⟩
  · have hR2 : R = false := by
      rw [← hR]
      simp only [decide_eq_false_iff_not]
      intro e
      exact hnm (by rw [Han.out, Hbm.out, e])
    subst hR2
    have h4 : ¬ (n : Int) = (m : Int) := by omega
    clear hR hnm
    go_enter Try.func18, Try.ntmps18
    go_wp2
    go_ret
    exact ⟨rfl, 0, rfl⟩
theorem words_at (n0 : Nat) (A B : Option Addr) (n m c d : Nat) (a : List Nat) (ha : Ns w A n a) (hb : Ns w B m a) (hn : n ≤ 9223372036854775807) :
    Calls Try.prog 18 #[.slice A n c, .slice B m d] (w.drewN n0) fun e w' => e = .returned (.bool true) ∧ ∃ k, w' = (w.drewN n0).drewN k := by
  have := words_ (w.drewN n0) A B n m c d a a (ha.drewN n0) (hb.drewN n0) hn
  rw [decide_eq_true (rfl : a = a)] at this
  exact this
set_option maxRecDepth 100000 in
set_option maxHeartbeats 4000000 in
theorem same_ (A B : Option Addr) (n m c d : Nat) (l : List BOp) (ha : Opl w A n l) (hb : Opl w B m l) (hn : n ≤ 9223372036854775807) :
    Calls Try.prog 17 #[.slice A n c, .slice B m d] w fun e w' => e = .returned (.bool true) ∧ ∃ k, w' = w.drewN k := by
  have hnm : m = n := hb.len.trans ha.len.symm
  subst hnm
  go_enter Try.func17, Try.ntmps17
  go_wp2_with fail
  go_loopw [5] (fun iv wr => ∃ (k j : Nat), k ≤ m ∧ iv = .int .i64 (k : Int) ∧ wr = w.drewN j) (fun iv _ => m - (intOf iv).toNat)
  case atStart => exact ⟨0, 0, Nat.zero_le _, rfl, rfl⟩
  case round =>
    obtain ⟨k, j, hk, rfl, hwr⟩ := hrel
    have Hwr := Lib.hid hwr
    have haw : Opl wr A m l := by rw [hwr]; exact ha.drewN j
    have hbw : Opl wr B m l := by rw [hwr]; exact hb.drewN j
    clear hwr
    by_cases hlt : k < m
    · have hil : (k : Int) < (m : Int) := by omega
      have hk0 : (0 : Int) ≤ (k : Int) := by omega
      obtain ⟨p, o, X, xm, xc, x, rfl, hx, c0, c1, c2, c3, dx⟩ := haw.at_ hlt
      obtain ⟨q, r, Y, ym, yc, y, rfl, hy, d0, d1, d2, d3, dy⟩ := hbw.at_ hlt
      rw [hx] at hy
      injection hy with hy
      subst hy
      have hxm : xm ≤ 9223372036854775807 := Nat.le_trans dx.le dx.cap
      clear ha hb hx haw hbw
      go_wp2_with fail
      go_quiet (first
        | (go_at_call 18; exact Calls.quiet_of (words_at wr _ X Y xm ym xc yc x.data dx.ns dy.ns hxm)))
      go_wp2
      go_roundw
      case rel => exact ⟨k + 1, j + nq, by omega, by go_num, by rw [Hwr.out]; simp⟩
      case measure => simp [intOf]; omega
    · have hin : (m : Int) ≤ (k : Int) := by omega
      go_wp2
      go_ret
      exact ⟨rfl, j, Hwr.out⟩
end
end Blo
end Go.Proofs.Ytofoecpnphoohaa
