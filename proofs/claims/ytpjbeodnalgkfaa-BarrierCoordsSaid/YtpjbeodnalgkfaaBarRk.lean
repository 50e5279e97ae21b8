/- Layer 17: orders of the law -/
import Derived.Test.YtpjbeodnalgkfaaBarRi
import Derived.Test.YtpjbeodnalgkfaaBarI
set_option linter.all false
namespace Go.Proofs.Ytpjbeodnalgkfaa
open Go.RowKit
namespace Bar
section
variable (w : World)
set_option maxRecDepth 100000 in
set_option maxHeartbeats 4000000 in
theorem orders_ (A B : Option Addr) (n ca cb : Nat) (l : List Odr) (hA : Rd w A 3 n (ods l)) (hB : Rd w B 3 n (ods l)) (hn : n ≤ 100) (hca : n ≤ ca) (hcb : n ≤ cb) : Calls Try.prog 23 #[.slice A n ca, .slice B n cb] w fun e w' => e = .returned (.bool true) ∧ Below w.heap.size w w' := by
  have HA := Lib.hid hA
  have HB := Lib.hid hB
  clear hA hB
  have t0 : ((n : Int) != (n : Int)) = false := by simp
  go_enter Try.func23, Try.ntmps23
  go_wp2_with fail
  go_loopw [13] (fun iv wr => ∃ i k : Nat, i ≤ n ∧ iv = .int .i64 (i : Int) ∧ wr = w.drewN k) (fun iv _ => n - (intOf iv).toNat)
  case atStart => exact ⟨0, 0, Nat.zero_le _, rfl, rfl⟩
  case round =>
    obtain ⟨i, kk, hi, rfl, hwr⟩ := hrel
    by_cases hlt : i < n
    · have hil : (i : Int) < (n : Int) := by omega
      have hi0 : (0 : Int) ≤ (i : Int) := by omega
      obtain ⟨b1, o1, rfl, x, hx, c0, c1, c2⟩ := ods_get HA.out hlt
      obtain ⟨b2, o2, rfl, x', hx', e0, e1, e2⟩ := ods_get HB.out hlt
      rw [hx] at hx'
      injection hx' with hx'
      subst hx'
      obtain ⟨xa, xk, xi⟩ := x
      simp only at c0 c1 c2 e0 e1 e2
      have n0 : (xa != xa) = false := by simp
      have n1 : (xk != xk) = false := by simp
      have n2 : (xi != xi) = false := by simp
      have hwr2 := Lib.hid hwr
      have c0' : wr.cell? ⟨b1, o1 + i * 3, none⟩ = some (.int .i64 xa) := by rw [hwr]; exact c0
      have c1' : wr.cell? ⟨b1, o1 + i * 3 + 1, none⟩ = some (.int .i64 xk) := by rw [hwr]; exact c1
      have c2' : wr.cell? ⟨b1, o1 + i * 3 + 2, none⟩ = some (.int .i64 xi) := by rw [hwr]; exact c2
      have e0' : wr.cell? ⟨b2, o2 + i * 3, none⟩ = some (.int .i64 xa) := by rw [hwr]; exact e0
      have e1' : wr.cell? ⟨b2, o2 + i * 3 + 1, none⟩ = some (.int .i64 xk) := by rw [hwr]; exact e1
      have e2' : wr.cell? ⟨b2, o2 + i * 3 + 2, none⟩ = some (.int .i64 xi) := by rw [hwr]; exact e2
      clear hx c0 c1 c2 e0 e1 e2 hwr
      go_wp2_with fail
      go_quiet (fail)
      go_wp2
      go_roundw
      case rel => exact ⟨i + 1, kk + nq, by omega, by go_num, by rw [hwr2.out]; first | rfl | exact World.drewN_drewN .. | simp [World.drewN_add]⟩
      case measure => simp [intOf]; omega
    · have he : i = n := by omega
      subst he
      have hil : ¬ (i : Int) < (i : Int) := by omega
      have hwr2 := Lib.hid hwr
      clear hwr
      go_wp2
      go_ret
      exact ⟨rfl, by rw [hwr2.out]; exact below_drewN (Below.refl _ _) _⟩
end
end Bar
end Go.Proofs.Ytpjbeodnalgkfaa
