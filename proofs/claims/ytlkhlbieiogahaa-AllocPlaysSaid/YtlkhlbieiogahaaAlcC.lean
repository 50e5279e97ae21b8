/- Layer 5: an allocator's methods: Take, Share, Drop. -/
import Derived.Test.YtlkhlbieiogahaaAlcB
namespace Go.Proofs.Ytlkhlbieiogahaa
open Go.RowKit Go.Maps

theorem Rng.upd {N : Nat} {c : Nat → Int} {f : Int → Int} {lo k : Nat} (h : Rng N c) (hf : ∀ j, j < k → lo + j < N → -1 ≤ f (c (lo + j)) ∧ f (c (lo + j)) ≤ 1048576) : Rng N (upd f c lo k) := fun j hj => by
  unfold Proofs.Ytlkhlbieiogahaa.upd
  split
  · rename_i hi
    have := hf (j - lo) (by omega) (by omega)
    rw [show lo + (j - lo) = j by omega] at this
    exact this
  · exact h j hj
section
variable (g N : Nat) (c : Nat → Int) (w : World)
set_option maxRecDepth 100000 in
set_option maxHeartbeats 1000000 in
theorem take_ (n : Int) (h : Al w g N c) (hn : -9223372036854775808 ≤ n ∧ n ≤ 9223372036854775807) :
    Calls Try.prog 12 #[.pointer (some ⟨g + 1, 0, none⟩), .int .i64 n] w fun e w' => e = .returned (.tuple #[.int .i64 (takeR N c n).1, .int .i64 (takeR N c n).2.1]) ∧ Al w' g N (takeR N c n).2.2 ∧ Tn g (g + 1) w w' := by
  have hm := h.most
  by_cases h1 : n < 1
  · have Hr := Lib.hid (show takeR N c n = (0, 1, c) by unfold takeR; rw [if_pos h1])
    go_enter Try.func12, Try.ntmps12
    go_wp2_with fail
    refine (made_ g N c w h).mono ?_
    rintro e w' ⟨rfl, rfl⟩
    go_wp2
    go_ret2
    rw [Hr.out]
    exact ⟨rfl, h, Tn.refl _ _ _⟩
  · obtain ⟨n, rfl⟩ := Int.eq_ofNat_of_zero_le (show 0 ≤ n by omega)
    cases hh : hit c n N with
    | none =>
      have Hr := Lib.hid (show takeR N c n = (0, 7, c) by unfold takeR; rw [if_neg h1, Int.toNat_natCast, hh])
      have Hh := Lib.hid hh
      clear hh
      go_enter Try.func12, Try.ntmps12
      go_wp2_with fail
      refine (made_ g N c w h).mono ?_
      rintro e w' ⟨rfl, rfl⟩
      go_wp2_with fail
      refine (row_ g N c w n h (by omega) (by omega)).mono ?_
      rw [Hh.out, show rowV none n = #[.int .i64 0, .bool false] from rfl]
      rintro e w' ⟨rfl, rfl⟩
      go_wp2
      go_ret2
      rw [Hr.out]
      exact ⟨rfl, h, Tn.refl _ _ _⟩
    | some z =>
      have Hr := Lib.hid (show takeR N c n = ((z : Int) + 1 - (n : Int), 0, upd (fun _ => 1) c (z + 1 - n) n) by unfold takeR; rw [if_neg h1, Int.toNat_natCast, hh])
      obtain ⟨r1, r2, r3⟩ := hit_row hh (by omega)
      have Hh := Lib.hid hh
      obtain ⟨F, hF⟩ : ∃ F, F = z + 1 - n := ⟨_, rfl⟩
      have hz : (z : Int) + 1 - (n : Int) = (F : Int) := by omega
      have HF := Lib.hid hF
      have Hz := Lib.hid hz
      have HrV : rowV (some z) n = #[.int .i64 (F : Int), .bool true] := by unfold rowV; simp only [hz]
      have HR := Lib.hid HrV
      have hFn : F + n ≤ N := by omega
      clear hh hF hz HrV r3 r1 r2
      go_enter Try.func12, Try.ntmps12
      go_wp2_with fail
      refine (made_ g N c w h).mono ?_
      rintro e w' ⟨rfl, rfl⟩
      go_wp2_with fail
      refine (row_ g N c w n h (by omega) (by omega)).mono ?_
      rw [Hh.out, HR.out]
      rintro e w' ⟨rfl, rfl⟩
      go_wp2_with fail
      go_loopw [23] (fun iv wr => ∃ i : Nat, i ≤ n ∧ iv = .int .i64 (i : Int) ∧ Al wr g N (upd (fun _ => 1) c F i) ∧ Tn g (g + 1) w wr) (fun iv _ => n - (intOf iv).toNat)
      case atStart => exact ⟨0, Nat.zero_le _, rfl, by rw [upd_zero]; exact h, Tn.refl _ _ _⟩
      case round =>
        obtain ⟨i, hi, rfl, hA, hT⟩ := hrel
        have c1 := hA.self.cell (j := 1) (u := .slice (some ⟨g, 0, none⟩) N N) rfl
        by_cases hlt : i < n
        · have hil : (i : Int) < (n : Int) := by omega
          have hc := hA.at_ (j := F + i) (by omega)
          have hf := hA.row.free (F + i)
          have hw : IntKind.i64.wrap ((F : Int) + (i : Int)) = ((F + i : Nat) : Int) := by rw [IntKind.wrap_i64]; omega
          have Hs := Lib.hid (upd_succ (fun _ => 1) c F i)
          have hrg := h.rng.upd (f := fun _ => 1) (lo := F) (k := i + 1) (fun j _ _ => by omega)
          go_wp2
          go_roundw
          case rel => exact ⟨i + 1, by omega, by go_num, hA.rows (Tn.set _ _ _ (Nat.le_refl _) (Nat.lt_succ_self _)) (row_store hA.row (F + i) 1 _ Hs.out) hrg, hT.trans (Tn.set _ _ _ (Nat.le_refl _) (Nat.lt_succ_self _))⟩
          case measure => simp [intOf]; omega
        · have hin : (n : Int) ≤ (i : Int) := by omega
          have he : i = n := by omega
          rw [he] at hA
          clear he
          go_wp2
          go_ret2
          rw [Hr.out]
          exact ⟨by rw [Hz.out]; rfl, by rw [← HF.out]; exact hA, hT⟩

set_option maxRecDepth 100000 in
set_option maxHeartbeats 1000000 in
theorem share_ (f n : Int) (h : Al w g N c) (hf : -9223372036854775808 ≤ f ∧ f ≤ 9223372036854775807) (hn : -9223372036854775808 ≤ n ∧ n ≤ 9223372036854775807) :
    Calls Try.prog 14 #[.pointer (some ⟨g + 1, 0, none⟩), .int .i64 f, .int .i64 n] w fun e w' => e = .returned (.int .i64 (shareR N c f n).1) ∧ Al w' g N (shareR N c f n).2 ∧ Tn g (g + 1) w w' := by
  have hm := h.most
  by_cases h0 : rightR N c f n = 0
  · obtain ⟨r1, r2, r3, r4⟩ := right_ok h0
    have H0 := Lib.hid h0
    have hs : shareR N c f n = if anyIn (fun x => x == 1048576) c f.toNat n.toNat then (6, c) else (0, upd (· + 1) c f.toNat n.toNat) := by unfold shareR; rw [if_neg (by simpa using h0)]
    obtain ⟨f, rfl⟩ := Int.eq_ofNat_of_zero_le r2
    obtain ⟨n, rfl⟩ := Int.eq_ofNat_of_zero_le (show 0 ≤ n by omega)
    simp only [Int.toNat_natCast] at hs r4
    have Hs := Lib.hid hs
    have H4 := Lib.hid r4
    clear h0 hs r4
    go_enter Try.func14, Try.ntmps14
    go_wp2_with fail
    refine (check_ g N c w f n h hf hn).mono ?_
    rw [H0.out]
    rintro e w' ⟨rfl, rfl⟩
    go_wp2_with fail
    go_loopw [18] (fun iv wr => ∃ i : Nat, i ≤ n ∧ iv = .int .i64 (i : Int) ∧ anyIn (fun x => x == 1048576) c f i = false ∧ w = wr) (fun iv _ => n - (intOf iv).toNat)
    case atStart => exact ⟨0, Nat.zero_le _, rfl, rfl, rfl⟩
    case round =>
      obtain ⟨i, hi, rfl, ha, rfl⟩ := hrel
      have c1 := h.self.cell (j := 1) (u := .slice (some ⟨g, 0, none⟩) N N) rfl
      by_cases hlt : i < n
      · have hil : (i : Int) < (n : Int) := by omega
        have hc := h.at_ (j := f + i) (by omega)
        have hw : IntKind.i64.wrap ((f : Int) + (i : Int)) = ((f + i : Nat) : Int) := by rw [IntKind.wrap_i64]; omega
        cases hx : c (f + i) == 1048576 with
        | true =>
          have Ha := Lib.hid (anyIn_true (p := fun x => x == 1048576) (c := c) (lo := f) hlt hx)
          clear ha
          go_wp2
          go_ret
          rw [Hs.out, Ha.out]
          exact ⟨rfl, h, Tn.refl _ _ _⟩
        | false =>
          have Ha := Lib.hid (anyIn_no (p := fun x => x == 1048576) ha hx)
          clear ha
          go_wp2
          go_roundw
          case rel => exact ⟨i + 1, by omega, by go_num, Ha.out, trivial⟩
          case measure => simp [intOf]; omega
      · have hin : (n : Int) ≤ (i : Int) := by omega
        have he : i = n := by omega
        rw [he] at ha
        have Ha := Lib.hid ha
        clear ha he c1
        go_wp2_with fail
        go_loopw [33] (fun iv wr => ∃ i : Nat, i ≤ n ∧ iv = .int .i64 (i : Int) ∧ Al wr g N (upd (· + 1) c f i) ∧ Tn g (g + 1) w wr) (fun iv _ => n - (intOf iv).toNat)
        case atStart => exact ⟨0, Nat.zero_le _, rfl, by rw [upd_zero]; exact h, Tn.refl _ _ _⟩
        case round =>
          obtain ⟨i, hi, rfl, hA, hT⟩ := hrel
          have c1 := hA.self.cell (j := 1) (u := .slice (some ⟨g, 0, none⟩) N N) rfl
          by_cases hlt : i < n
          · have hil : (i : Int) < (n : Int) := by omega
            have hc := hA.at_ (j := f + i) (by omega)
            rw [upd_at] at hc
            have hf := hA.row.free (f + i)
            have hw : IntKind.i64.wrap ((f : Int) + (i : Int)) = ((f + i : Nat) : Int) := by rw [IntKind.wrap_i64]; omega
            have Hu := Lib.hid (upd_succ (· + 1) c f i)
            have hrg := h.rng.upd (f := (· + 1)) (lo := f) (k := i + 1) (fun j hj hj2 => by
              have h5 := anyIn_at Ha.out j (by omega)
              have h6 := h.rng (f + j) hj2
              simp at h5
              omega)
            have hr1 := h.rng (f + i) (by omega)
            have hwc : IntKind.i64.wrap (c (f + i) + 1) = c (f + i) + 1 := by rw [IntKind.wrap_i64]; omega
            go_wp2
            go_roundw
            case rel => exact ⟨i + 1, by omega, by go_num, hA.rows (Tn.set _ _ _ (Nat.le_refl _) (Nat.lt_succ_self _)) (row_store hA.row (f + i) _ _ Hu.out) hrg, hT.trans (Tn.set _ _ _ (Nat.le_refl _) (Nat.lt_succ_self _))⟩
            case measure => simp [intOf]; omega
          · have hin : (n : Int) ≤ (i : Int) := by omega
            have he : i = n := by omega
            rw [he] at hA
            clear he
            go_wp2
            go_ret
            rw [Hs.out, Ha.out]
            exact ⟨rfl, hA, hT⟩
  · have Hs := Lib.hid (show shareR N c f n = (rightR N c f n, c) by unfold shareR; rw [if_pos h0])
    have Hb := Lib.hid (show (rightR N c f n == 0) = false by simpa using h0)
    have H1 := (right_cases N c f n).resolve_left h0
    clear h0
    rcases H1 with H1 | H1
    all_goals
      have H1' := Lib.hid H1
      rw [H1] at Hs
      clear H1
      go_enter Try.func14, Try.ntmps14
      go_wp2_with fail
      refine (check_ g N c w f n h hf hn).mono ?_
      rw [H1'.out]
      rintro e w' ⟨rfl, rfl⟩
      go_wp2
      go_ret
      rw [Hs.out]
      exact ⟨rfl, h, Tn.refl _ _ _⟩

theorem dropF_one : dropF 1 = -1 := rfl
set_option maxRecDepth 100000 in
set_option maxHeartbeats 2000000 in
theorem drop_ (f n : Int) (h : Al w g N c) (hf : -9223372036854775808 ≤ f ∧ f ≤ 9223372036854775807) (hn : -9223372036854775808 ≤ n ∧ n ≤ 9223372036854775807) :
    Calls Try.prog 16 #[.pointer (some ⟨g + 1, 0, none⟩), .int .i64 f, .int .i64 n] w fun e w' => e = .returned (.tuple #[.int .i64 (dropR N c f n).1, .int .i64 (dropR N c f n).2.1]) ∧ Al w' g N (dropR N c f n).2.2 ∧ Tn g (g + 1) w w' := by
  have hm := h.most
  by_cases h0 : rightR N c f n = 0
  · obtain ⟨r1, r2, r3, r4⟩ := right_ok h0
    have H0 := Lib.hid h0
    have hs : dropR N c f n = ((cntIn (· == 1) c f.toNat n.toNat : Int), 0, upd dropF c f.toNat n.toNat) := by unfold dropR; rw [if_neg (by simpa using h0)]
    obtain ⟨f, rfl⟩ := Int.eq_ofNat_of_zero_le r2
    obtain ⟨n, rfl⟩ := Int.eq_ofNat_of_zero_le (show 0 ≤ n by omega)
    simp only [Int.toNat_natCast] at hs r4
    have Hs := Lib.hid hs
    have H4 := Lib.hid r4
    clear h0 hs r4
    go_enter Try.func16, Try.ntmps16
    go_wp2_with fail
    refine (check_ g N c w f n h hf hn).mono ?_
    rw [H0.out]
    rintro e w' ⟨rfl, rfl⟩
    go_wp2_with fail
    go_loopw [9, 19] (fun nv iv wr => ∃ i : Nat, i ≤ n ∧ iv = .int .i64 (i : Int) ∧ nv = .int .i64 ((cntIn (· == 1) c f i : Nat) : Int) ∧ Al wr g N (upd dropF c f i) ∧ Tn g (g + 1) w wr) (fun _ iv _ => n - (intOf iv).toNat)
    case atStart => exact ⟨0, Nat.zero_le _, rfl, rfl, by rw [upd_zero]; exact h, Tn.refl _ _ _⟩
    case round =>
      obtain ⟨i, hi, rfl, rfl, hA, hT⟩ := hrel
      have c1 := hA.self.cell (j := 1) (u := .slice (some ⟨g, 0, none⟩) N N) rfl
      by_cases hlt : i < n
      · have hil : (i : Int) < (n : Int) := by omega
        have hc := hA.at_ (j := f + i) (by omega)
        rw [upd_at] at hc
        have hfz := hA.row.free (f + i)
        have hw : IntKind.i64.wrap ((f : Int) + (i : Int)) = ((f + i : Nat) : Int) := by rw [IntKind.wrap_i64]; omega
        have hrg := h.rng.upd (f := dropF) (lo := f) (k := i + 1) (fun j hj hj2 => by
          have h5 := H4.out j (by omega)
          have h6 := h.rng (f + j) hj2
          unfold dropF
          split <;> omega)
        have hr1 := h.rng (f + i) (by omega)
        have hr2 := H4.out i hlt
        have hle := cntIn_le (· == 1) c f i
        have hu := upd_succ dropF c f i
        cases hx : c (f + i) == 1 with
        | true =>
          have he : c (f + i) = 1 := by simpa using hx
          have Hn := Lib.hid (cntIn_yes (p := (· == 1)) (c := c) (lo := f) (k := i) hx)
          rw [he] at hc hu
          have hu' : upd dropF c f (i + 1) = fun j => if j = f + i then -1 else (fun j => if j = f + i then 0 else upd dropF c f i j) j := by
            rw [hu]
            funext j
            by_cases e : j = f + i
            · rw [if_pos e, if_pos e, dropF_one]
            · simp only [if_neg e]
          have Hu := Lib.hid hu'
          have hk1 := row_store hA.row (f + i) 0 _ rfl
          clear hu he hx hr1 hr2 hu'
          generalize cntIn (· == 1) c f i = m at *
          have ht1 : Tn g (g + 1) wr ((wr.setCell ⟨g, f + i, none⟩ (.int .i64 0)).setCell ⟨g, f + i, none⟩ (.int .i64 (-1))) := (Tn.set _ _ _ (Nat.le_refl _) (Nat.lt_succ_self _)).trans (Tn.set _ _ _ (Nat.le_refl _) (Nat.lt_succ_self _))
          go_wp2
          go_roundw
          case rel => exact ⟨i + 1, by omega, by go_num, by rw [Hn.out]; go_num, hA.rows ht1 (row_store hk1 (f + i) (-1) _ Hu.out) hrg, hT.trans ht1⟩
          case measure => simp [intOf]; omega
        | false =>
          have he : c (f + i) ≠ 1 := by simpa using hx
          have Hn := Lib.hid (cntIn_no (p := (· == 1)) (c := c) (lo := f) (k := i) hx)
          have hd : dropF (c (f + i)) = c (f + i) - 1 := by unfold dropF; rw [if_neg he]
          rw [hd] at hu
          have Hu := Lib.hid hu
          have hwc : IntKind.i64.wrap (c (f + i) - 1) = c (f + i) - 1 := by rw [IntKind.wrap_i64]; omega
          have hne : (c (f + i) - 1 == 0) = false := by simpa using (by omega : ¬ c (f + i) - 1 = 0)
          clear hu hd he hx
          generalize cntIn (· == 1) c f i = m at *
          go_wp2
          go_roundw
          case rel => exact ⟨i + 1, by omega, by go_num, by rw [Hn.out], hA.rows (Tn.set _ _ _ (Nat.le_refl _) (Nat.lt_succ_self _)) (row_store hA.row (f + i) _ _ Hu.out) hrg, hT.trans (Tn.set _ _ _ (Nat.le_refl _) (Nat.lt_succ_self _))⟩
          case measure => simp [intOf]; omega
      · have hin : (n : Int) ≤ (i : Int) := by omega
        have he : i = n := by omega
        have He := Lib.hid he
        rw [he] at hA
        clear he
        go_wp2
        go_ret2
        rw [Hs.out]
        exact ⟨by rw [He.out]; rfl, hA, hT⟩
  · have Hs := Lib.hid (show dropR N c f n = (0, rightR N c f n, c) by unfold dropR; rw [if_pos h0])
    have H1 := (right_cases N c f n).resolve_left h0
    clear h0
    rcases H1 with H1 | H1
    all_goals
      have H1' := Lib.hid H1
      rw [H1] at Hs
      clear H1
      go_enter Try.func16, Try.ntmps16
      go_wp2_with fail
      refine (check_ g N c w f n h hf hn).mono ?_
      rw [H1'.out]
      rintro e w' ⟨rfl, rfl⟩
      go_wp2
      go_ret2
      rw [Hs.out]
      exact ⟨rfl, h, Tn.refl _ _ _⟩
end
end Go.Proofs.Ytlkhlbieiogahaa
