/- Walks of the check sums' functions: what each call answers, said of bytes. -/
import Derived.Test.YtallbhdfbkkjkaaKit
import Derived.Test.YtallbhdfbkkjkaaSumM
set_option linter.all false
namespace Go.Proofs.Ytallbhdfbkkjkaa
open Go.RowKit

set_option maxHeartbeats 400000 in
theorem refMore (s : Nat) (hs : s < 4294967296) (A : Option Addr) (n c : Nat) (xs : List UInt8) (w : World) (hr : Bs w A n xs) (hn : n ≤ 9223372036854775807) :
    Calls Try.prog 56 #[.int .u32 (s : Int), .slice A n c] w fun e w' => e = .returned (.int .u32 (adMore s xs : Nat)) ∧ w = w' := by
  have hl := hr.len
  have ha0 := adStart_lt s
  go_enter Try.func56, Try.ntmps56
  go_wp2
  go_loop [5, 6, 7] (fun a b i => ∃ k : Nat, k ≤ n ∧ i = .int .i64 k ∧ a = .int .u32 ((adl (adStart s) (xs.take k)).1 : Nat) ∧ b = .int .u32 ((adl (adStart s) (xs.take k)).2 : Nat)) (fun _ _ i => n - (intOf i).toNat)
  case atStart => exact ⟨0, Nat.zero_le _, rfl, by simp [adl, adStart], by simp [adl, adStart]⟩
  case round =>
    obtain ⟨k, hk, rfl, rfl, rfl⟩ := hrel
    have hlt := adl_lt _ (xs.take k) ha0
    by_cases hkn : k < n
    · obtain ⟨b, o, rfl, hkx, hcell⟩ := hr.at_ hkn
      have hb : xs[k].toNat < 256 := xs[k].toNat_lt
      have H : adl (adStart s) (xs.take (k+1)) = adStep (adl (adStart s) (xs.take k)) xs[k] := by
        rw [List.take_succ_eq_append_getElem hkx, adl_snoc]
      have H' := Lib.hid H
      clear H hl hr
      generalize adl (adStart s) (xs.take k) = r at *
      go_wp2
      go_round
      case rel =>
        refine ⟨k + 1, by omega, by go_num, ?_, ?_⟩ <;> rw [H'.out] <;> simp [adStep]
      case measure => simp [intOf]; omega
    · have hkl : xs.length ≤ k := by omega
      have H : adMore s xs = (adl (adStart s) (xs.take k)).2 * 65536 + (adl (adStart s) (xs.take k)).1 := by
        rw [List.take_of_length_le hkl]; rfl
      have H' := Lib.hid H
      clear H hl hr
      generalize adl (adStart s) (xs.take k) = r at *
      go_wp2
      go_ret
      rw [H'.out]
      exact ⟨by simp, rfl⟩

theorem or_u32 (a b : Nat) (ha : a < 65521) (hb : b < 65521) : bits .or .u32 ((b : Int) * 65536) (a : Int) = (b : Int) * 65536 + (a : Int) := by
  have h := u32_or_nat (b * 65536) a (by omega) (by omega)
  have h2 := nat_join 16 (b * 65536) a (by omega) (by omega)
  rw [h2] at h
  simpa using h
theorem and_u32 (s : Nat) (hs : s < 4294967296) : bits .and .u32 (s : Int) 65535 = (s : Int) % 65536 := by
  have h := u32_and_nat s 65535 hs (by omega)
  rw [show (65535 : Nat) = 2 ^ 16 - 1 from rfl, Nat.and_two_pow_sub_one_eq_mod] at h
  simpa using h

set_option maxRecDepth 100000 in
set_option maxHeartbeats 1600000 in
theorem sumMore (s : Nat) (hs : s < 4294967296) (A : Option Addr) (n c : Nat) (xs : List UInt8) (w : World) (hr : Bs w A n xs) (hnc : n ≤ c) (hn : c ≤ 9223372036854775807) :
    Calls Try.prog 64 #[.int .u32 (s : Int), .slice A n c] w fun e w' => e = .returned (.int .u32 (adMore s xs : Nat)) ∧ w = w' := by
  have ha0 := adStart_lt s
  have hand := and_u32 s hs
  have hl0 := hr.len
  go_enter Try.func64, Try.ntmps64
  go_wp2
  clear hand
  go_loop [5, 6, 1] (fun a b v => ∃ (d : Nat) (A' : Option Addr) (n' c' : Nat), v = .slice A' n' c' ∧ n' ≤ c' ∧ c' ≤ 9223372036854775807 ∧ n' + d = xs.length ∧ Bs w A' n' (xs.drop d) ∧
      a = .int .u32 ((adl (adStart s) (xs.take d)).1 : Nat) ∧ b = .int .u32 ((adl (adStart s) (xs.take d)).2 : Nat))
    (fun _ _ v => match v with | .slice _ m _ => m | _ => 0)
  case atStart => exact ⟨0, A, n, c, rfl, hnc, hn, by omega, by simpa using hr, by simp [adl, adStart], by simp [adl, adStart]⟩
  case round =>
    obtain ⟨d, A', n', c', rfl, hnc', hc', hnd, hr', rfl, rfl⟩ := hrel
    have hlt := adl_lt _ (xs.take d) ha0
    clear hr
    generalize hys : xs.drop d = ys at hr'
    have hyl := Lib.hid hr'.len
    have Hys := Lib.hid hys
    have H2 : ∀ m, m ≤ n' → adl (adStart s) (xs.take (d + m)) = adl (adl (adStart s) (xs.take d)) (ys.take m) := by
      intro m hm
      rw [← adl_append, ← hys, List.take_add]
    have H2' := Lib.hid H2
    clear hys H2 hl0
    generalize hrr : adl (adStart s) (xs.take d) = r at *
    have Hrr := Lib.hid hrr
    clear hrr
    by_cases h0 : 0 < n'
    · have hbig : 5552 < n' ∨ n' ≤ 5552 := Nat.lt_or_ge _ _
      rcases hbig with hbig | hbig
      all_goals
        go_wp2
        go_loop [5, 6, 26] (fun a b i => ∃ k : Nat, i = .int .i64 k ∧ k ≤ n' ∧ k ≤ 5552 ∧ a = .int .u32 ((rwl r (ys.take k)).1 : Nat) ∧ b = .int .u32 ((rwl r (ys.take k)).2 : Nat)) (fun _ _ i => n' - (intOf i).toNat)
        case atStart => exact ⟨0, rfl, by omega, by omega, by simp [rwl], by simp [rwl]⟩
        case round =>
          obtain ⟨k, rfl, hk1, hk2, rfl, rfl⟩ := hrel
          by_cases hk3 : k < n' ∧ k < 5552
          · obtain ⟨hk3, hk4⟩ := hk3
            obtain ⟨b, o, rfl, hkx, hcell⟩ := hr'.at_ hk3
            have hb : ys[k].toNat < 256 := ys[k].toNat_lt
            have hs2 := rwl_small r (ys.take (k+1)) hlt (by rw [List.length_take]; omega)
            have H : rwl r (ys.take (k+1)) = rwStep (rwl r (ys.take k)) ys[k] := by
              rw [List.take_succ_eq_append_getElem hkx, rwl_snoc]
            rw [H] at hs2
            have H' := Lib.hid H
            clear H hr'
            generalize rwl r (ys.take k) = q at *
            unfold rwStep at hs2
            simp only at hs2
            go_wp2
            go_round
            case rel => exact ⟨k + 1, by go_num, by omega, by omega, by rw [H'.out]; simp [rwStep], by rw [H'.out]; simp [rwStep]⟩
            case measure => simp [intOf]; omega
          · have hs2 := rwl_small r (ys.take k) hlt (by rw [List.length_take]; omega)
            have hm := rwl_mod r (ys.take k) hlt
            have Hd := hr'.drop (k := k) hk1 hnc'
            clear hr'
            have Hm := Lib.hid hm
            clear hm
            go_wp2
            go_round
            case rel =>
              first
              | (obtain rfl : k = 5552 := by omega
                 have hc5 : c' ≠ 5552 := by omega
                 refine ⟨d + 5552, _, _, _, rfl, by omega, by omega, by omega, ?_, by rw [H2'.out 5552 hk1, Hm.out]; simp, by rw [H2'.out 5552 hk1, Hm.out]; simp⟩
                 rw [← List.drop_drop, Hys.out]
                 simpa [Addr.add, hc5] using Hd)
              | (obtain rfl : k = n' := by omega
                 refine ⟨d + k, _, _, _, rfl, by omega, by omega, by omega, ?_, by rw [H2'.out k hk1, Hm.out]; simp, by rw [H2'.out k hk1, Hm.out]; simp⟩
                 rw [← List.drop_drop, Hys.out]
                 simpa using Hd)
            case measure => simp only; omega
    · have H := H2'.out n' (Nat.le_refl _)
      have hn0 : n' = 0 := by omega
      rw [hn0] at H
      have hor := Lib.hid (or_u32 r.1 r.2 hlt.1 hlt.2)
      have hd : adMore s xs = r.2 * 65536 + r.1 := by
        rw [← Hrr.out, List.take_of_length_le (by omega)]; rfl
      have Hd := Lib.hid hd
      clear hd
      go_wp2
      go_ret
      rw [hor.out, Hd.out]
      exact ⟨by simp, rfl⟩

theorem adOf_snoc (ps : List (List UInt8)) (b : List UInt8) : adOf (ps ++ [b]) = adMore (adOf ps) b := by simp [adOf]
theorem adOf_lt (ps : List (List UInt8)) : adOf ps < 4294967296 := by
  rcases List.eq_nil_or_concat ps with rfl | ⟨l, b, rfl⟩
  · simp [adOf]
  · rw [List.concat_eq_append, adOf_snoc]; exact adMore_lt _ _

set_option maxRecDepth 100000 in
set_option maxHeartbeats 400000 in
theorem sumOf (A : Option Addr) (n c : Nat) (xss : List (List UInt8)) (w : World) (hr : Bss w A n xss) (hn : n ≤ 9223372036854775807) :
    Calls Try.prog 55 #[.slice A n c] w fun e w' => e = .returned (.int .u32 (adOf xss : Nat)) ∧ w = w' := by
  go_enter Try.func55, Try.ntmps55
  go_wp2
  go_loop [3, 8] (fun s i => ∃ k : Nat, k ≤ n ∧ i = .int .i64 k ∧ s = .int .u32 (adOf (xss.take k) : Nat)) (fun _ i => n - (intOf i).toNat)
  case atStart => exact ⟨0, Nat.zero_le _, rfl, by simp [adOf]⟩
  case round =>
    obtain ⟨k, hk, rfl, rfl⟩ := hrel
    have hl := Lib.hid hr.1
    by_cases hkn : k < n
    · have hkx : k < xss.length := by rw [← hl.out]; exact hkn
      obtain ⟨b, o, A', n', c', rfl, hcell, h1, h2, h3⟩ := hr.2 k hkx
      have hlt := adOf_lt (xss.take k)
      have H := Lib.hid (adOf_snoc (xss.take k) xss[k])
      have H2 := Lib.hid (List.take_succ_eq_append_getElem hkx)
      clear hr
      go_wp2_with (refine (sumMore _ hlt _ _ _ _ _ h3 h1 h2).mono ?_; rintro e w' ⟨rfl, rfl⟩)
      go_round
      case rel => exact ⟨k + 1, by omega, by go_num, by rw [H2.out, H.out]⟩
      case measure => simp [intOf]; omega
    · go_wp2
      go_ret
      rw [List.take_of_length_le (by rw [← hl.out]; omega)]
      exact ⟨rfl, rfl⟩

end Go.Proofs.Ytallbhdfbkkjkaa
