/- Walks of package pack's Writer: number, add, Put, Part, Bytes; each said of bytes. -/
import Derived.Test.YtofoecpnphoohaaOwn
import Derived.Test.YtofoecpnphoohaaPackM
import Derived.Test.YtofoecpnphoohaaByt
import Derived.Test.YtofoecpnphoohaaStep
import Derived.Deep.RegionHeld3
import Derived.StillTailTactics
set_option linter.all false
namespace Go.Proofs.Ytofoecpnphoohaa
open Go.RowKit

theorem byteOf (n : Nat) : ((UInt8.ofNat n).toNat : Int) = (n : Int) % 256 := by rw [UInt8.toNat_ofNat']; omega
theorem pow_step (n k : Nat) : n / 256 ^ k / 256 = n / 256 ^ (k + 1) := by rw [Nat.div_div_eq_div_mul, Nat.pow_succ]
theorem div_le_64 (m k : Nat) (h : m < 18446744073709551616) : m / 256 ^ k < 18446744073709551616 := Nat.lt_of_le_of_lt (Nat.div_le_self _ _) h

theorem Bs.new1 (w : World) (q : Nat) (t : TypeId) {g : Nat} (hg : g = w.heap.size) {z : Int} (hz : z = (q : Int) % 256) : Bs (w.alloc (.cells #[.int .u8 z] t)) (some ⟨g, 0, none⟩) 1 [UInt8.ofNat q] := by
  subst hg hz
  have := Bs.new w [UInt8.ofNat q] t (0, 0)
  simpa only [bvs, List.map_cons, List.map_nil, bv, byteOf, List.length_cons, List.length_nil, Nat.zero_add] using this
theorem shr_div (n j : Nat) : (n : Int) / 2 ^ (8 * j) = ((n / 256 ^ j : Nat) : Int) := by
  have h : (2 : Int) ^ (8 * j) = ((256 ^ j : Nat) : Int) := by
    rw [show (256 : Nat) = 2 ^ 8 from rfl, ← Nat.pow_mul]
    simp
  rw [h]
  rfl

set_option maxRecDepth 100000 in
set_option maxHeartbeats 400000 in
theorem number_ (base : Nat) (v : Value) (n : Nat) (xs : List UInt8) (m : Nat) (hm : m < 18446744073709551616) (w : World) (hown : w.ownsRow base 5 1 v n (bvs xs)) (hn : n + 8 ≤ 140737488355328) (hB : base ≤ w.heap.size) :
    Calls Try.prog 44 #[v, .int .u64 (m : Int)] w fun e w' => ∃ v', e = .returned v' ∧ w'.ownsRow base 5 1 v' (n + 8) (bvs (xs ++ numBytes m)) ∧ After w v w' v' := by
  obtain ⟨i0, hi0, hz0, hz1, hz2⟩ := info_parts info_u8
  have Hz := Lib.hid hz2
  clear hz2
  go_enter Try.func44, Try.ntmps44
  go_wp2
  go_loopw [0, 1, 5] (fun u q i wr => ∃ k : Nat, k ≤ 8 ∧ i = .int .i64 k ∧ q = .int .u64 ((m / 256 ^ k : Nat) : Int) ∧ wr.ownsRow base 5 1 u (n + k) (bvs (xs ++ (numBytes m).take k)) ∧ After w v wr u ∧ base ≤ wr.heap.size) (fun _ _ i _ => 8 - (intOf i).toNat)
  case atStart => exact ⟨0, Nat.zero_le _, rfl, by simp, by simpa using hown, After.refl _ _, hB⟩
  case round =>
    obtain ⟨k, hk, rfl, rfl, hok, haf, hBr⟩ := hrel
    by_cases hlt : k < 8
    · have hd := div_le_64 m k hm
      have H1 := Lib.hid (byteOf (m / 256 ^ k))
      have H2 := Lib.hid (pow_step m k)
      have H3 := Lib.hid (numBytes_take m k hlt)
      generalize m / 256 ^ k = q at *
      go_wp2_with (first
        | (at_builtin
           refine wpList_app _ rfl (.tmp 7) (.tmp 10) _ rfl base 5 i0 (.int .u8 0) 1 1 Try.underlying23 hi0 hz0 hz1 Hz.out rfl Nat.one_pos _ (n + k) _ rfl (hok.alloc _) _ 1 1 _ rfl (by simp) (Bs.new1 wr q 5 rfl rfl) (bvs_one _) (by unfold maxLen; omega) (by omega) (by simp; omega) ?_
           intro v2 w2 hown2 hg2 hat2
           have haf2 := haf.trans ((After.alloc (After.refl wr _) _).trans (After.app hg2 hat2))
           have hB2 : base ≤ w2.heap.size := Nat.le_trans hBr (Nat.le_trans (by simp) hg2.size)
           rw [← bvs_append, List.append_assoc, ← H3.out] at hown2
           clear hg2 hat2 hok haf hown))
      go_roundw
      case rel => exact ⟨k + 1, by omega, by go_num, by rw [← H2.out]; simp, hown2, haf2, hB2⟩
      case measure => simp [intOf]; omega
    · have hk8 : k = 8 := by omega
      subst hk8
      clear hown
      go_wp2
      go_ret
      rw [List.take_of_length_le (by rw [numBytes_length]; omega)] at hok
      exact ⟨_, rfl, hok, haf⟩

end Go.Proofs.Ytofoecpnphoohaa
