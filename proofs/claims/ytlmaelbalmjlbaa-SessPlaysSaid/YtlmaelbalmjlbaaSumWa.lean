/- Walks of the check sums' functions: what each call answers, said of bytes. -/
import Derived.Test.YtlmaelbalmjlbaaKit
import Derived.Test.YtlmaelbalmjlbaaSumM
set_option linter.all false
namespace Go.Proofs.Ytlmaelbalmjlbaa
open Go.RowKit

set_option maxHeartbeats 400000 in
theorem refMore (s : Nat) (hs : s < 4294967296) (A : Option Addr) (n c : Nat) (xs : List UInt8) (w : World) (hr : Bs w A n xs) (hn : n ≤ 9223372036854775807) :
    Calls Try.prog 58 #[.int .u32 (s : Int), .slice A n c] w fun e w' => e = .returned (.int .u32 (adMore s xs : Nat)) ∧ w = w' := by
  have hl := hr.len
  have ha0 := adStart_lt s
  go_enter Try.func58, Try.ntmps58
  go_wp2
  go_loop [5, 6, 7] (fun a b i => ∃ k : Nat, k ≤ n ∧ i = .int .i64 k ∧ a = .int .u32 ((adl (adStart s) (xs.take k)).1 : Nat) ∧ b = .int .u32 ((adl (adStart s) (xs.take k)).2 : Nat)) (fun _ _ i => n - (intOf i).toNat)
  case atStart => exact ⟨0, Nat.zero_le _, rfl, by simp [adl, adStart], by simp [adl, adStart]⟩
  case round =>
    obtain ⟨k, hk, rfl, rfl, rfl⟩ := hrel
    have hlt := adl_lt _ (xs.take k) ha0
    by_cases hkn : k < n
    · obtain ⟨b, o, rfl, hkx, hcell⟩ := hr.at_ hkn
      have hb : xs[k].toNat < 256 := xs[k].toNat_lt
      have H : adl (adStart s) (xs.take (k+1)) = adStep (adl (adStart s) (xs.take k)) xs[k] := by
        rw [List.take_succ_eq_append_getElem hkx, adl_snoc]
      have H' := Lib.hid H
      clear H hl hr
      generalize adl (adStart s) (xs.take k) = r at *
      go_wp2
      go_round
      case rel =>
        refine ⟨k + 1, by omega, by go_num, ?_, ?_⟩ <;> rw [H'.out] <;> simp [adStep]
      case measure => simp [intOf]; omega
    · have hkl : xs.length ≤ k := by omega
      have H : adMore s xs = (adl (adStart s) (xs.take k)).2 * 65536 + (adl (adStart s) (xs.take k)).1 := by
        rw [List.take_of_length_le hkl]; rfl
      have H' := Lib.hid H
      clear H hl hr
      generalize adl (adStart s) (xs.take k) = r at *
      go_wp2
      go_ret
      rw [H'.out]
      exact ⟨by simp, rfl⟩

theorem or_u32 (a b : Nat) (ha : a < 65521) (hb : b < 65521) : bits .or .u32 ((b : Int) * 65536) (a : Int) = (b : Int) * 65536 + (a : Int) := by
  have h := u32_or_nat (b * 65536) a (by omega) (by omega)
  have h2 := nat_join 16 (b * 65536) a (by omega) (by omega)
  rw [h2] at h
  simpa using h
theorem and_u32 (s : Nat) (hs : s < 4294967296) : bits .and .u32 (s : Int) 65535 = (s : Int) % 65536 := by
  have h := u32_and_nat s 65535 hs (by omega)
  rw [show (65535 : Nat) = 2 ^ 16 - 1 from rfl, Nat.and_two_pow_sub_one_eq_mod] at h
  simpa using h

theorem adOf_snoc (ps : List (List UInt8)) (b : List UInt8) : adOf (ps ++ [b]) = adMore (adOf ps) b := by simp [adOf]
theorem adOf_lt (ps : List (List UInt8)) : adOf ps < 4294967296 := by
  rcases List.eq_nil_or_concat ps with rfl | ⟨l, b, rfl⟩
  · simp [adOf]
  · rw [List.concat_eq_append, adOf_snoc]; exact adMore_lt _ _

end Go.Proofs.Ytlmaelbalmjlbaa
