/- Proves AllocBack of layer 5 (alloc), for every input, with no condition: what was taken, shared so often, dropped as often as it was held, and settled, is free again. -/
import Derived.Test.YtlkhlbieiogahaaAlcL
namespace Go.Proofs.Ytlkhlbieiogahaa
open Go.ChangeShapes Go.WideShapes Go.ChangeAt Go.RowKit Go.Maps

/-- The first n units are held k times, the others are free. -/
def bk (n : Nat) (k : Int) : Nat → Int := fun j => if j < n then k else 0
theorem bk_zero (n : Nat) : bk n 0 = fun _ => 0 := by funext j; unfold bk; split <;> rfl
theorem cnt_bk (p : Int → Bool) (n : Nat) (k : Int) : ∀ m, cntIn p (bk n k) 0 m = (if p k then min m n else 0) + (if p 0 then m - n else 0)
  | 0 => by simp [cntIn]
  | m + 1 => by
    unfold cntIn
    rw [cnt_bk p n k m, Nat.zero_add]
    by_cases h : m < n
    · have hb : bk n k m = k := by unfold bk; rw [if_pos h]
      rw [hb]
      cases p k <;> cases p 0 <;> simp <;> omega
    · have hb : bk n k m = 0 := by unfold bk; rw [if_neg h]
      rw [hb]
      cases p k <;> cases p 0 <;> simp <;> omega
theorem any_bk (p : Int → Bool) (n : Nat) (k : Int) (h : p k = false) : anyIn p (bk n k) 0 n = false := anyIn_none fun j hj => by rw [Nat.zero_add]; unfold bk; rw [if_pos hj]; exact h
theorem upd_bk (f : Int → Int) (n : Nat) (k : Int) : upd f (bk n k) 0 n = bk n (f k) := by
  funext j
  unfold upd bk
  by_cases h : j < n
  · rw [if_pos (by omega), if_pos h, if_pos h]
  · rw [if_neg (by omega), if_neg h, if_neg h]
theorem long_zero : ∀ i, long (fun _ => 0) i = i
  | 0 => rfl
  | i + 1 => by unfold long; rw [if_pos rfl, long_zero i]
theorem hit_zero (n : Nat) (h1 : 1 ≤ n) : ∀ N, hit (fun _ => 0) n N = if N < n then none else some (n - 1)
  | 0 => by unfold hit; rw [if_pos (by omega)]
  | N + 1 => by
    unfold hit
    rw [hit_zero n h1 N, long_zero]
    by_cases h : N < n
    · rw [if_pos h]
      by_cases e : N + 1 = n
      · simp [e]; omega
      · simp only [if_neg e, if_pos (show N + 1 < n by omega)]
    · simp only [if_neg h, if_neg (show ¬ N + 1 < n by omega)]
theorem right_bk {N n : Nat} {k : Int} (h1 : 1 ≤ n) (h2 : n ≤ N) (hk : 1 ≤ k) : rightR N (bk n k) 0 n = 0 := by
  unfold rightR
  rw [if_neg (by omega)]
  have e := any_bk (fun x => decide (x < 1)) n k (by simp; omega)
  exact if_neg (by simp only [Int.toNat_natCast, Int.toNat_zero]; rw [e]; simp)
theorem right_bk0 {N n : Nat} (h1 : 1 ≤ n) (h2 : n ≤ N) : rightR N (bk n 0) 0 n = 9 := by
  unfold rightR
  rw [if_neg (by omega)]
  have e : anyIn (fun x => decide (x < 1)) (bk n 0) 0 n = true := anyIn_true (i := 0) (by omega) (by rw [Nat.zero_add, bk_zero]; simp)
  exact if_pos (by simp only [Int.toNat_natCast, Int.toNat_zero]; exact e)
theorem share_bk {N n : Nat} {k : Int} (h1 : 1 ≤ n) (h2 : n ≤ N) (hk : 1 ≤ k) (hk2 : k < 1048576) : shareR N (bk n k) 0 n = (0, bk n (k + 1)) := by
  unfold shareR
  rw [right_bk h1 h2 hk, if_neg (by simp)]
  simp only [Int.toNat_natCast, Int.toNat_zero]
  rw [any_bk _ n k (by simp; omega), upd_bk]
  rfl
theorem share_bk0 {N n : Nat} (h1 : 1 ≤ n) (h2 : n ≤ N) : shareR N (bk n 0) 0 n = (9, bk n 0) := by
  unfold shareR
  rw [right_bk0 h1 h2, if_pos (by decide)]
theorem drop_bk {N n : Nat} {k : Int} (h1 : 1 ≤ n) (h2 : n ≤ N) (hk : 2 ≤ k) : dropR N (bk n k) 0 n = (0, 0, bk n (k - 1)) := by
  unfold dropR
  rw [right_bk h1 h2 (by omega), if_neg (by simp)]
  simp only [Int.toNat_natCast, Int.toNat_zero]
  rw [upd_bk, cnt_bk, show dropF k = k - 1 by unfold dropF; rw [if_neg (by omega)]]
  have : (k == 1) = false := by simp; omega
  simp [this]
theorem drop_bk1 {N n : Nat} (h1 : 1 ≤ n) (h2 : n ≤ N) : dropR N (bk n 1) 0 n = ((n : Int), 0, bk n (-1)) := by
  unfold dropR
  rw [right_bk h1 h2 (by omega), if_neg (by simp)]
  simp only [Int.toNat_natCast, Int.toNat_zero]
  rw [upd_bk, cnt_bk]
  simp [dropF]
theorem free_bk {N n : Nat} {k : Int} (h2 : n ≤ N) (hk : k ≠ 0) : freeR N (bk n k) = (N : Int) - (n : Int) := by
  unfold freeR
  rw [cnt_bk]
  have : (k == 0) = false := by simpa using hk
  simp [this]
  omega
theorem free_bk0 {N n : Nat} (h2 : n ≤ N) : freeR N (bk n 0) = (N : Int) := by
  unfold freeR
  rw [cnt_bk]
  simp
  omega
theorem wait_bk {N n : Nat} (h2 : n ≤ N) : waitR N (bk n (-1)) = (n : Int) := by
  unfold waitR
  rw [cnt_bk]
  simp
  omega
theorem settle_bk {N n : Nat} : settleC N (bk n (-1)) = bk n (if n ≤ N then 0 else -1) ∨ ¬ n ≤ N := by
  by_cases h : n ≤ N
  · left
    rw [if_pos h]
    funext j
    unfold settleC upd bk settleF
    by_cases e : j < n
    · rw [if_pos (by omega), if_pos e, if_pos rfl, if_pos e]
    · simp only [if_neg e]
      split <;> simp
  · exact .inr h
theorem take_bk {N n : Nat} (h1 : 1 ≤ n) (h2 : n ≤ N) : takeR N (fun _ => 0) n = (0, 0, bk n 1) := by
  unfold takeR
  rw [if_neg (by omega), Int.toNat_natCast, hit_zero n h1 N, if_neg (by omega)]
  simp only
  rw [← bk_zero n, show n - 1 + 1 - n = 0 by omega, upd_bk, show ((n - 1 : Nat) : Int) + 1 - (n : Int) = 0 by omega]
theorem take_bk7 {N n : Nat} (h1 : 1 ≤ n) (h2 : N < n) : takeR N (fun _ => 0) n = (0, 7, fun _ => 0) := by
  unfold takeR
  rw [if_neg (by omega), Int.toNat_natCast, hit_zero n h1 N, if_pos h2]
theorem take_bk1 {N : Nat} {n : Int} (h1 : n < 1) : takeR N (fun _ => 0) n = (0, 1, fun _ => 0) := by
  unfold takeR
  rw [if_pos h1]

set_option maxRecDepth 100000 in
set_option maxHeartbeats 1000000 in
theorem allocBack_bad (z m : Int) (t : Nat) (w : World) (hz : ¬ (1 ≤ z ∧ z ≤ 4096)) :
    Calls Try.prog 6 #[.int .i64 z, .int .i64 m, .int .u8 (t : Int)] w fun e w' => e = .returned (.bool true) ∧ Below w.heap.size w w' := by
  go_enter Try.func6, Try.ntmps6
  go_wp2_with fail
  refine (new_bad z _ hz).mono ?_
  rintro e w' ⟨rfl, rfl⟩
  go_wp2_with fail
  refine (alive_ _).mono ?_
  rintro e w5 ⟨rfl, hb5⟩
  go_wp2
  go_ret
  exact ⟨rfl, hb5⟩

set_option maxRecDepth 100000 in
set_option maxHeartbeats 4000000 in
theorem allocBack_good (N : Nat) (m : Int) (t : Nat) (w : World) (h1 : 0 < N) (h2 : N ≤ 4096) (ht : t < 256) (hm : -9223372036854775808 ≤ m ∧ m ≤ 9223372036854775807) :
    Calls Try.prog 6 #[.int .i64 (N : Int), .int .i64 m, .int .u8 (t : Int)] w fun e w' => e = .returned (.bool true) ∧ Below w.heap.size w w' := by
  go_enter Try.func6, Try.ntmps6
  go_wp2_with fail
  refine (new_ N w h1 h2).mono ?_
  rintro e w1 ⟨g, rfl, hg, k1, hb1⟩
  go_wp2_with fail
  refine (alive_ _).mono ?_
  rintro e w5 ⟨rfl, hb5⟩
  have h5 := k1.below hb5
  have hB5 : Below w.heap.size w w5 := hb1.trans (hb5.mono hb1.size)
  have h0 : w.heap.size ≤ g := by omega
  clear hb1 hb5 k1 hg
  by_cases m1 : m < 1
  · go_wp2_with fail
    refine (take_ g N _ w5 m h5 hm).mono ?_
    rw [take_bk1 m1]
    rintro e wA ⟨rfl, hA, htA⟩
    have hBA := hB5.trans (htA.below h0 hB5.size)
    go_wp2
    go_ret
    exact ⟨rfl, hBA⟩
  obtain ⟨n, rfl⟩ := Int.eq_ofNat_of_zero_le (show 0 ≤ m by omega)
  have n1 : 1 ≤ n := by omega
  by_cases hn : N < n
  · have hni : (N : Int) < (n : Int) := by omega
    go_wp2_with fail
    refine (take_ g N _ w5 n h5 hm).mono ?_
    rw [take_bk7 n1 hn]
    rintro e wA ⟨rfl, hA, htA⟩
    have hBA := hB5.trans (htA.below h0 hB5.size)
    go_wp2
    go_ret
    exact ⟨rfl, hBA⟩
  have hn' : n ≤ N := by omega
  go_wp2_with fail
  refine (take_ g N _ w5 n h5 hm).mono ?_
  rw [take_bk n1 hn']
  rintro e wA ⟨rfl, hA, htA⟩
  have hBA := hB5.trans (htA.below h0 hB5.size)
  clear h5 hB5 htA m1
  have b0 : -9223372036854775808 ≤ (0 : Int) ∧ (0 : Int) ≤ 9223372036854775807 := by omega
  go_wp2_with fail
  go_loopw [55] (fun iv wr => ∃ i : Nat, i ≤ t ∧ iv = .int .u8 (i : Int) ∧ Al wr g N (bk n ((i : Int) + 1)) ∧ Below w.heap.size w wr) (fun iv _ => t - (intOf iv).toNat)
  case atStart => exact ⟨0, Nat.zero_le _, rfl, hA, hBA⟩
  case round =>
    obtain ⟨i, hi, rfl, hR, hB⟩ := hrel
    clear hA hBA
    by_cases hlt : i < t
    · have hil : (i : Int) < (t : Int) := by omega
      have Hs := Lib.hid (share_bk (k := (i : Int) + 1) n1 hn' (by omega) (by omega))
      go_wp2_with fail
      refine (share_ g N _ wr 0 n hR b0 hm).mono ?_
      rw [Hs.out]
      rintro e wB ⟨rfl, hB1, htB⟩
      have hBB := hB.trans (htB.below h0 hB.size)
      go_wp2
      go_roundw
      case rel => exact ⟨i + 1, by omega, by go_num, by simpa using hB1, hBB⟩
      case measure => simp [intOf]; omega
    · have hin : (t : Int) ≤ (i : Int) := by omega
      have he : i = t := by omega
      rw [he] at hR
      clear he
      go_wp2_with fail
      go_loopw [64] (fun iv wr => ∃ i : Nat, i ≤ t ∧ iv = .int .u8 (i : Int) ∧ Al wr g N (bk n (((t - i : Nat) : Int) + 1)) ∧ Below w.heap.size w wr) (fun iv _ => t - (intOf iv).toNat)
      case atStart => exact ⟨0, Nat.zero_le _, rfl, hR, hB⟩
      case round =>
        obtain ⟨i, hi, rfl, hR, hB⟩ := hrel
        by_cases hlt : i < t
        · have hil : (i : Int) < (t : Int) := by omega
          have Hs := Lib.hid (drop_bk (k := ((t - i : Nat) : Int) + 1) n1 hn' (by omega))
          have Hk := Lib.hid (show ((t - i : Nat) : Int) + 1 - 1 = ((t - (i + 1) : Nat) : Int) + 1 by omega)
          go_wp2_with fail
          refine (drop_ g N _ wr 0 n hR b0 hm).mono ?_
          rw [Hs.out, Hk.out]
          rintro e wB ⟨rfl, hB1, htB⟩
          have hBB := hB.trans (htB.below h0 hB.size)
          go_wp2
          go_roundw
          case rel => exact ⟨i + 1, by omega, by go_num, hB1, hBB⟩
          case measure => simp [intOf]; omega
        · have hin : (t : Int) ≤ (i : Int) := by omega
          have he : ((t - i : Nat) : Int) + 1 = 1 := by omega
          rw [he] at hR
          clear he
          have Hf := Lib.hid (free_bk (k := 1) hn' (by decide))
          have Hf2 := Lib.hid (free_bk (k := -1) hn' (by decide))
          have Hw := Lib.hid (wait_bk hn')
          have Hd := Lib.hid (drop_bk1 n1 hn')
          have Hst := Lib.hid ((settle_bk (N := N) (n := n)).resolve_right (by omega))
          have Hf0 := Lib.hid (free_bk0 hn')
          have Hs0 := Lib.hid (share_bk0 n1 hn')
          go_wp2_with fail
          refine (free_ g N _ wr hR).mono ?_
          rw [Hf.out]
          rintro e w' ⟨rfl, rfl⟩
          go_wp2_with fail
          refine (drop_ g N _ wr 0 n hR b0 hm).mono ?_
          rw [Hd.out]
          rintro e wC ⟨rfl, hC, htC⟩
          have hBC := hB.trans (htC.below h0 hB.size)
          clear hR hB htC
          go_wp2_with fail
          refine (free_ g N _ wC hC).mono ?_
          rw [Hf2.out]
          rintro e w' ⟨rfl, rfl⟩
          go_wp2_with fail
          refine (settle_ g N _ wC hC).mono ?_
          rw [Hw.out, Hst.out, if_pos hn']
          rintro e wD ⟨rfl, hD, htD⟩
          have hBD := hBC.trans (htD.below h0 hBC.size)
          clear hC hBC htD
          go_wp2_with fail
          refine (free_ g N _ wD hD).mono ?_
          rw [Hf0.out]
          rintro e w' ⟨rfl, rfl⟩
          go_wp2_with fail
          refine (share_ g N _ wD 0 n hD b0 hm).mono ?_
          rw [Hs0.out]
          rintro e wE ⟨rfl, hE, htE⟩
          have hBE := hBD.trans (htE.below h0 hBD.size)
          go_wp2
          go_ret
          exact ⟨rfl, hBE⟩

theorem allocBack_walk (z m : Int) (t : Nat) (w : World) (ht : t < 256) (hm : -9223372036854775808 ≤ m ∧ m ≤ 9223372036854775807) :
    Calls Try.prog 6 #[.int .i64 z, .int .i64 m, .int .u8 (t : Int)] w fun e w' => e = .returned (.bool true) ∧ Below w.heap.size w w' := by
  by_cases hz : 1 ≤ z ∧ z ≤ 4096
  · obtain ⟨n, rfl⟩ := Int.eq_ofNat_of_zero_le (show 0 ≤ z by omega)
    exact allocBack_good n m t w (by omega) (by omega) ht hm
  · exact allocBack_bad z m t w hz

set_option maxRecDepth 100000 in
theorem allocBack_lifted (os : Os) (started : os.Started) (H : Type) (enc : TypeId × Value → H) :
    ReturnsInHanded {} Try.checked os 6 .any (Rows.allocBackSpec.pre6 enc Try.prog Try.f6 Rows.allocBackRow.domain false) (Rows.allocBackSpec.post enc Try.prog Try.f6 false true false false) := by
  refine law_lifted (C := Try.checked) (tb := 4) own_ started (by kernel_rfl) Try.func6
    (ChangeSpec.witness6 (enc := enc) (C := Try.checked) false ⟨#[], #[.int .i64 0, .int .i64 0, .int .u8 0], []⟩ 8 (by kernel_rfl) (by kernel_rfl) (by kernel_rfl) (by kernel_rfl))
    rfl rfl Try.underlying4 laidOut_ (by kernel_rfl) (fun ds h => by match ds, h with | [_, _, _], _ => rfl) ?_
  intro W base args ds p hval0 hA0 _ hsz0
  have hval : ∀ (j : Nat) t v, Try.f6.params[j]? = some t → args[j]? = some v → Value.okWide Try.prog W .any base t v := hval0
  have hA : DataW.TrodAll enc Try.prog W 0 (fun _ => true) true Try.f6.params.toList args.toList ds p := hA0
  have hsz : (DataW.weightsEach Try.prog Try.f6.params.toList ds).all (· ≤ reachBytes) = true := hsz0
  clear hval0 hA0 hsz0
  rw [Try.params6] at hA hval hsz
  obtain ⟨v0, v1, v2, d0, d1, d2, p0, p1, p2, rfl, rfl, rfl, h0, h1, h2⟩ := trodAll_three hA
  obtain ⟨z0, rfl, hz0⟩ := arg_int _ _ Try.underlying3 (hval 0 _ v0 rfl rfl) h0 wf_i64
  obtain ⟨z1, rfl, hz1⟩ := arg_int _ _ Try.underlying3 (hval 1 _ v1 rfl rfl) h1 wf_i64
  obtain ⟨k2, rfl, hz2⟩ := arg_nat _ Try.underlying5 (hval 2 _ v2 rfl rfl) h2 wf_u8
  exact allocBack_walk z0 z1 k2 W hz2 hz1

/-- AllocBack, for every input: the statement as it was given. -/
theorem allocBack_holds : Rows.AllocBackSaid :=
  OpenClaim.holds_of_wide 6 Try.f6 rfl rfl rfl rfl rfl rfl rfl ⟨rfl, rfl, rfl, rfl, rfl⟩ rfl rfl rfl rfl rfl (by kernel_rfl) Try.func6 (by kernel_rfl)
    (of_decide_eq_true (by kernel_rfl)) (by unfold Func.isWrapper; first | (rw [if_pos (by decide +kernel)]; kernel_rfl) | (rw [if_neg (by decide +kernel)]; exact ⟨rfl, rfl⟩))
    (fun os started H enc _ => allocBack_lifted os started H enc)
end Go.Proofs.Ytlkhlbieiogahaa
