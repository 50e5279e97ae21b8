/- Layer 5: the document's allocator, its methods that write: Take, Share, Drop, Settle. -/
import Derived.Test.YtlkhlbieiogahaaRaA
namespace Go.Proofs.Ytlkhlbieiogahaa
open Go.RowKit Go.Maps

/-- The blocks of the document's allocator. -/
def PQR (p q r : Nat) : Nat → Prop := fun k => k = p ∨ k = q ∨ k = r
/-- One count is written, and whether it waits stays. -/
theorem Ra.put {w : World} {p q r N : Nat} {c c' : Nat → Int} (h : Ra w p q r N c) (j : Nat) (x y : Int) (hy : y = max 0 x) (hc : c' = fun i => if i = j then x else c i) (hw : (x == -1) = (c j == -1)) (hr : Rng N c') :
    Ra (w.setCell ⟨p, j, none⟩ (.int .i64 y)) p q r N c' := by
  subst hy hc
  have ht : Tn p (p + 1) w (w.setCell ⟨p, j, none⟩ (.int .i64 (max 0 x))) := Tn.set _ _ _ (Nat.le_refl _) (Nat.lt_succ_self _)
  refine ⟨?_, ?_, ht.blk h.self (by have := h.pr; omega), h.most, h.least, hr, h.pq, h.pr, h.qr⟩
  · refine row_store h.cnt j (max 0 x) _ ?_
    funext i
    unfold hd
    by_cases e : i = j
    · simp only [if_pos e]
    · simp only [if_neg e]
  · have e : wt (fun i => if i = j then x else c i) = wt c := by
      funext i
      unfold wt
      by_cases e : i = j
      · subst e; simp only [if_true]; rw [hw]
      · simp only [if_neg e]
    rw [e]
    exact ht.blk h.wait (by have := h.pq; omega)
/-- A free unit comes to wait. -/
theorem Ra.putw {w : World} {p q r N : Nat} {c c' : Nat → Int} (h : Ra w p q r N c) (j : Nat) (hc : c' = fun i => if i = j then -1 else c i) (h0 : c j = 0) (hr : Rng N c') :
    Ra (w.setCell ⟨q, j, none⟩ (.bool true)) p q r N c' := by
  subst hc
  have ht : Tn q (q + 1) w (w.setCell ⟨q, j, none⟩ (.bool true)) := Tn.set _ _ _ (Nat.le_refl _) (Nat.lt_succ_self _)
  refine ⟨?_, ?_, ht.blk h.self (by have := h.qr; omega), h.most, h.least, hr, h.pq, h.pr, h.qr⟩
  · have e : hd (fun i => if i = j then -1 else c i) = hd c := by
      funext i
      unfold hd
      by_cases e : i = j
      · subst e; simp only [if_true]; rw [h0]; decide
      · simp only [if_neg e]
    rw [e]
    exact ht.blk h.cnt (by have := h.pq; omega)
  · have := h.wait.setCell j (.bool true)
    rw [rowA_set] at this
    refine Eq.trans this ?_
    congr 2
    apply rowA_congr
    intro i _
    unfold wt
    by_cases e : i = j
    · simp [e]
    · simp [e]

section
variable (p q r N : Nat) (c : Nat → Int) (w : World)
set_option maxRecDepth 100000 in
set_option maxHeartbeats 2000000 in
theorem rtake_ (n : Int) (h : Ra w p q r N c) (hn : -9223372036854775808 ≤ n ∧ n ≤ 9223372036854775807) :
    Calls Try.prog 13 #[.pointer (some ⟨r, 0, none⟩), .int .i64 n] w fun e w' => e = .returned (.tuple #[.int .i64 (takeR N c n).1, .int .i64 (takeR N c n).2.1]) ∧ Ra w' p q r N (takeR N c n).2.2 ∧ Kp (PQR p q r) w w' := by
  have hm := h.most
  by_cases h1 : n < 1
  · have Hr := Lib.hid (show takeR N c n = (0, 1, c) by unfold takeR; rw [if_pos h1])
    go_enter Try.func13, Try.ntmps13
    go_wp2
    go_ret2
    rw [Hr.out]
    exact ⟨rfl, h, Kp.refl _ _⟩
  · obtain ⟨n, rfl⟩ := Int.eq_ofNat_of_zero_le (show 0 ≤ n by omega)
    have c1 := h.self.cell (j := 0) (u := .slice (some ⟨p, 0, none⟩) N N) rfl
    go_enter Try.func13, Try.ntmps13
    go_wp2_with fail
    go_loopw [6, 7] (fun lv iv wr => ∃ i : Nat, i ≤ N ∧ iv = .int .i64 (i : Int) ∧ lv = .int .i64 ((long c i : Nat) : Int) ∧ hit c n i = none ∧ w = wr) (fun _ iv _ => N - (intOf iv).toNat)
    case atStart => exact ⟨0, Nat.zero_le _, rfl, rfl, rfl, rfl⟩
    case round =>
      obtain ⟨i, hi, rfl, rfl, hh, rfl⟩ := hrel
      by_cases hlt : i < N
      · have hil : (i : Int) < (N : Int) := by omega
        have hll := long_le c i
        by_cases hx : c i = 0
        · have hl : long c (i + 1) = long c i + 1 := by simp [long, hx]
          have Hd := Lib.hid (decide_eq_true hx)
          by_cases he : long c i + 1 = n
          · have Hh := Lib.hid (hit_now hh (hl.trans he) hlt)
            have hr2 := hit_row Hh.out (by omega)
            have hen : (((long c i : Nat) : Int) + 1 == (n : Int)) = true := by simpa using (by omega : ((long c i : Nat) : Int) + 1 = (n : Int))
            obtain ⟨F, hF⟩ : ∃ F, F = i + 1 - n := ⟨_, rfl⟩
            have hFn : F + n = i + 1 := by omega
            have hz : (i : Int) - (n : Int) + 1 = (F : Int) := by omega
            have HZ := Lib.hid hr2.2.2
            have HF := Lib.hid hF
            have Hz := Lib.hid hz
            have Hr := Lib.hid (show takeR N c n = ((i : Int) + 1 - (n : Int), 0, upd (fun _ => 1) c F n) by unfold takeR; rw [if_neg (show ¬ (n : Int) < 1 by omega), Int.toNat_natCast, Hh.out, hF])
            clear hh hl he hx hF hr2 hz
            generalize long c i = L at *
            go_wp2_with fail
            refine (rfree_ p q r N c w i h hlt).mono ?_
            rw [Hd.out]
            rintro e w' ⟨rfl, rfl⟩
            clear c1
            go_wp2_with fail
            go_loopw [9] (fun iv wr => ∃ k : Nat, k ≤ n ∧ iv = .int .i64 ((F + k : Nat) : Int) ∧ Ra wr p q r N (upd (fun _ => 1) c F k) ∧ Kp (PQR p q r) w wr) (fun iv _ => F + n - (intOf iv).toNat)
            case atStart => exact ⟨0, Nat.zero_le _, by rw [Hz.out]; rfl, by rw [upd_zero]; exact h, Kp.refl _ _⟩
            case round =>
              obtain ⟨k, hk, rfl, hR, hK⟩ := hrel
              have c1 := hR.self.cell (j := 0) (u := .slice (some ⟨p, 0, none⟩) N N) rfl
              by_cases hlt2 : k < n
              · have hkl : ((F + k : Nat) : Int) ≤ (i : Int) := by omega
                have hc := hR.at_ (j := F + k) (by omega)
                have hf := hR.cnt.free (F + k)
                have hu := upd_succ (fun _ => 1) c F k
                have hc0 := HZ.out (F + k) (by have := HF.out; omega) (by omega)
                have hp := hR.put (F + k) 1 1 rfl hu (by rw [upd_at, hc0]; rfl) (h.rng.upd (f := fun _ => 1) (lo := F) (k := k + 1) (fun j _ _ => by omega))
                have hkp : Kp (PQR p q r) wr (wr.setCell ⟨p, F + k, none⟩ (.int .i64 1)) := Kp.set _ _ _ (.inl rfl)
                clear hu hc0
                go_wp2
                go_roundw
                case rel => exact ⟨k + 1, by omega, by go_num, hp, hK.trans hkp⟩
                case measure => simp [intOf]; omega
              · have hkl : (i : Int) < ((F + k : Nat) : Int) := by omega
                have he : k = n := by omega
                rw [he] at hR
                clear he
                go_wp2
                go_ret2
                rw [Hr.out]
                exact ⟨by have := Hz.out; rw [show (i : Int) + 1 - (n : Int) = (i : Int) - (n : Int) + 1 by omega]; rfl, hR, hK⟩
          · have Hh := Lib.hid (hit_next hh (by rw [hl]; exact he))
            have Hl := Lib.hid hl
            have hen : (((long c i : Nat) : Int) + 1 == (n : Int)) = false := by simpa using (by omega : ¬ ((long c i : Nat) : Int) + 1 = (n : Int))
            clear hh hl he hx
            generalize long c i = L at *
            go_wp2_with fail
            refine (rfree_ p q r N c w i h hlt).mono ?_
            rw [Hd.out]
            rintro e w' ⟨rfl, rfl⟩
            go_wp2
            go_roundw
            case rel => exact ⟨i + 1, by omega, by go_num, by rw [Hl.out]; rfl, Hh.out, trivial⟩
            case measure => simp [intOf]; omega
        · have hl : long c (i + 1) = 0 := by simp [long, hx]
          have Hd := Lib.hid (decide_eq_false hx)
          have Hh := Lib.hid (hit_next hh (by rw [hl]; omega))
          have Hl := Lib.hid hl
          have hen : ((0 : Int) == (n : Int)) = false := by simpa using (by omega : ¬ (0 : Int) = (n : Int))
          clear hh hl hx
          generalize long c i = L at *
          go_wp2_with fail
          refine (rfree_ p q r N c w i h hlt).mono ?_
          rw [Hd.out]
          rintro e w' ⟨rfl, rfl⟩
          go_wp2
          go_roundw
          case rel => exact ⟨i + 1, by omega, by go_num, by rw [Hl.out]; rfl, Hh.out, trivial⟩
          case measure => simp [intOf]; omega
      · have hin : (N : Int) ≤ (i : Int) := by omega
        have he : i = N := by omega
        rw [he] at hh
        have Hr := Lib.hid (show takeR N c n = (0, 7, c) by unfold takeR; rw [if_neg (show ¬ (n : Int) < 1 by omega), Int.toNat_natCast, hh])
        clear hh he
        generalize long c i = L at *
        go_wp2
        go_ret2
        rw [Hr.out]
        exact ⟨rfl, h, Kp.refl _ _⟩

set_option maxRecDepth 100000 in
set_option maxHeartbeats 2000000 in
theorem rshare_ (f n : Int) (h : Ra w p q r N c) (hf : -9223372036854775808 ≤ f ∧ f ≤ 9223372036854775807) (hn : -9223372036854775808 ≤ n ∧ n ≤ 9223372036854775807) :
    Calls Try.prog 15 #[.pointer (some ⟨r, 0, none⟩), .int .i64 f, .int .i64 n] w fun e w' => e = .returned (.int .i64 (shareR N c f n).1) ∧ Ra w' p q r N (shareR N c f n).2 ∧ Kp (PQR p q r) w w' := by
  have hm := h.most
  by_cases h0 : rightR N c f n = 0
  · obtain ⟨r1, r2, r3, r4⟩ := right_ok h0
    have H0 := Lib.hid h0
    have hs : shareR N c f n = if anyIn (fun x => x == 1048576) c f.toNat n.toNat then (6, c) else (0, upd (· + 1) c f.toNat n.toNat) := by unfold shareR; rw [if_neg (by simpa using h0)]
    obtain ⟨f, rfl⟩ := Int.eq_ofNat_of_zero_le r2
    obtain ⟨n, rfl⟩ := Int.eq_ofNat_of_zero_le (show 0 ≤ n by omega)
    simp only [Int.toNat_natCast] at hs r4
    have Hs := Lib.hid hs
    have H4 := Lib.hid r4
    have hwn : IntKind.i64.wrap ((f : Int) + (n : Int)) = ((f + n : Nat) : Int) := by rw [IntKind.wrap_i64]; omega
    clear h0 hs r4
    go_enter Try.func15, Try.ntmps15
    go_wp2_with fail
    refine (rright_ p q r N c w f n h hf hn).mono ?_
    rw [H0.out]
    rintro e w' ⟨rfl, rfl⟩
    go_wp2_with fail
    go_loopw [8] (fun iv wr => ∃ i : Nat, i ≤ n ∧ iv = .int .i64 ((f + i : Nat) : Int) ∧ anyIn (fun x => x == 1048576) c f i = false ∧ w = wr) (fun iv _ => f + n - (intOf iv).toNat)
    case atStart => exact ⟨0, Nat.zero_le _, rfl, rfl, rfl⟩
    case round =>
      obtain ⟨i, hi, rfl, ha, rfl⟩ := hrel
      have c1 := h.self.cell (j := 0) (u := .slice (some ⟨p, 0, none⟩) N N) rfl
      by_cases hlt : i < n
      · have hil : ((f + i : Nat) : Int) < ((f + n : Nat) : Int) := by omega
        have hc := h.at_ (j := f + i) (by omega)
        have h4 := H4.out i hlt
        have hrg := h.rng (f + i) (by omega)
        have hmx : max 0 (c (f + i)) = c (f + i) := by omega
        rw [hmx] at hc
        by_cases hx : c (f + i) = 1048576
        · have Ha := Lib.hid (anyIn_true (p := fun x => x == 1048576) (c := c) (lo := f) hlt (by simpa using hx))
          rw [hx] at hc
          clear ha hx hmx h4 hrg
          go_wp2
          go_ret
          rw [Hs.out, Ha.out]
          exact ⟨rfl, h, Kp.refl _ _⟩
        · have Ha := Lib.hid (anyIn_no (p := fun x => x == 1048576) ha (by simpa using hx))
          have hlt2 : c (f + i) < 1048576 := by omega
          clear ha hx hmx
          go_wp2
          go_roundw
          case rel => exact ⟨i + 1, by omega, by go_num, Ha.out, trivial⟩
          case measure => simp [intOf]; omega
      · have hin : ((f + n : Nat) : Int) ≤ ((f + i : Nat) : Int) := by omega
        have he : i = n := by omega
        rw [he] at ha
        have Ha := Lib.hid ha
        clear ha he c1
        go_wp2_with fail
        go_loopw [9] (fun iv wr => ∃ i : Nat, i ≤ n ∧ iv = .int .i64 ((f + i : Nat) : Int) ∧ Ra wr p q r N (upd (· + 1) c f i) ∧ Kp (PQR p q r) w wr) (fun iv _ => f + n - (intOf iv).toNat)
        case atStart => exact ⟨0, Nat.zero_le _, rfl, by rw [upd_zero]; exact h, Kp.refl _ _⟩
        case round =>
          obtain ⟨i, hi, rfl, hR, hK⟩ := hrel
          have c1 := hR.self.cell (j := 0) (u := .slice (some ⟨p, 0, none⟩) N N) rfl
          by_cases hlt : i < n
          · have hil : ((f + i : Nat) : Int) < ((f + n : Nat) : Int) := by omega
            have hc := hR.at_ (j := f + i) (by omega)
            rw [upd_at] at hc
            have h4 := H4.out i hlt
            have hr1 := h.rng (f + i) (by omega)
            have hmx : max 0 (c (f + i)) = c (f + i) := by omega
            rw [hmx] at hc
            have hfz := hR.cnt.free (f + i)
            have hrg := h.rng.upd (f := (· + 1)) (lo := f) (k := i + 1) (fun j hj hj2 => by
              have h5 := anyIn_at Ha.out j (by omega)
              have h6 := h.rng (f + j) hj2
              simp at h5
              omega)
            have hp := hR.put (f + i) (c (f + i) + 1) (c (f + i) + 1) (by omega) (upd_succ (· + 1) c f i) (by
              rw [upd_at]
              have e1 : (c (f + i) + 1 == -1) = false := by simp; omega
              have e2 : (c (f + i) == -1) = false := by simp; omega
              rw [e1, e2]) hrg
            have hkp : Kp (PQR p q r) wr (wr.setCell ⟨p, f + i, none⟩ (.int .i64 (c (f + i) + 1))) := Kp.set _ _ _ (.inl rfl)
            have hwc : IntKind.i64.wrap (c (f + i) + 1) = c (f + i) + 1 := by rw [IntKind.wrap_i64]; omega
            clear hmx
            go_wp2
            go_roundw
            case rel => exact ⟨i + 1, by omega, by go_num, hp, hK.trans hkp⟩
            case measure => simp [intOf]; omega
          · have hin : ((f + n : Nat) : Int) ≤ ((f + i : Nat) : Int) := by omega
            have he : i = n := by omega
            rw [he] at hR
            clear he
            go_wp2
            go_ret
            rw [Hs.out, Ha.out]
            exact ⟨rfl, hR, hK⟩
  · have Hs := Lib.hid (show shareR N c f n = (rightR N c f n, c) by unfold shareR; rw [if_pos h0])
    have H1 := (right_cases N c f n).resolve_left h0
    clear h0
    rcases H1 with H1 | H1
    all_goals
      have H1' := Lib.hid H1
      rw [H1] at Hs
      clear H1
      go_enter Try.func15, Try.ntmps15
      go_wp2_with fail
      refine (rright_ p q r N c w f n h hf hn).mono ?_
      rw [H1'.out]
      rintro e w' ⟨rfl, rfl⟩
      go_wp2
      go_ret
      rw [Hs.out]
      exact ⟨rfl, h, Kp.refl _ _⟩

set_option maxRecDepth 100000 in
set_option maxHeartbeats 2000000 in
theorem rdrop_ (f n : Int) (h : Ra w p q r N c) (hf : -9223372036854775808 ≤ f ∧ f ≤ 9223372036854775807) (hn : -9223372036854775808 ≤ n ∧ n ≤ 9223372036854775807) :
    Calls Try.prog 17 #[.pointer (some ⟨r, 0, none⟩), .int .i64 f, .int .i64 n] w fun e w' => e = .returned (.tuple #[.int .i64 (dropR N c f n).1, .int .i64 (dropR N c f n).2.1]) ∧ Ra w' p q r N (dropR N c f n).2.2 ∧ Kp (PQR p q r) w w' := by
  have hm := h.most
  by_cases h0 : rightR N c f n = 0
  · obtain ⟨r1, r2, r3, r4⟩ := right_ok h0
    have H0 := Lib.hid h0
    have hs : dropR N c f n = ((cntIn (· == 1) c f.toNat n.toNat : Int), 0, upd dropF c f.toNat n.toNat) := by unfold dropR; rw [if_neg (by simpa using h0)]
    obtain ⟨f, rfl⟩ := Int.eq_ofNat_of_zero_le r2
    obtain ⟨n, rfl⟩ := Int.eq_ofNat_of_zero_le (show 0 ≤ n by omega)
    simp only [Int.toNat_natCast] at hs r4
    have Hs := Lib.hid hs
    have H4 := Lib.hid r4
    have hwn : IntKind.i64.wrap ((f : Int) + (n : Int)) = ((f + n : Nat) : Int) := by rw [IntKind.wrap_i64]; omega
    clear h0 hs r4
    go_enter Try.func17, Try.ntmps17
    go_wp2_with fail
    refine (rright_ p q r N c w f n h hf hn).mono ?_
    rw [H0.out]
    rintro e w' ⟨rfl, rfl⟩
    go_wp2_with fail
    go_loopw [9, 10] (fun nv iv wr => ∃ i : Nat, i ≤ n ∧ iv = .int .i64 ((f + i : Nat) : Int) ∧ nv = .int .i64 ((cntIn (· == 1) c f i : Nat) : Int) ∧ Ra wr p q r N (upd dropF c f i) ∧ Kp (PQR p q r) w wr) (fun _ iv _ => f + n - (intOf iv).toNat)
    case atStart => exact ⟨0, Nat.zero_le _, rfl, rfl, by rw [upd_zero]; exact h, Kp.refl _ _⟩
    case round =>
      obtain ⟨i, hi, rfl, rfl, hR, hK⟩ := hrel
      have c1 := hR.self.cell (j := 0) (u := .slice (some ⟨p, 0, none⟩) N N) rfl
      have c2 := hR.self.cell (j := 1) (u := .slice (some ⟨q, 0, none⟩) N N) rfl
      by_cases hlt : i < n
      · have hil : ((f + i : Nat) : Int) < ((f + n : Nat) : Int) := by omega
        have hc := hR.at_ (j := f + i) (by omega)
        rw [upd_at] at hc
        have h4 := H4.out i hlt
        have hr1 := h.rng (f + i) (by omega)
        have hmx : max 0 (c (f + i)) = c (f + i) := by omega
        rw [hmx] at hc
        have hfz := hR.cnt.free (f + i)
        have hrg := h.rng.upd (f := dropF) (lo := f) (k := i + 1) (fun j hj hj2 => by
          have h5 := H4.out j (by omega)
          have h6 := h.rng (f + j) hj2
          unfold dropF
          split <;> omega)
        have hle := cntIn_le (· == 1) c f i
        by_cases hx : c (f + i) = 1
        · have Hn := Lib.hid (cntIn_yes (p := (· == 1)) (c := c) (lo := f) (k := i) (by simpa using hx))
          have hu := upd_succ dropF c f i
          have hrg0 : Rng N (fun j => if j = f + i then 0 else upd dropF c f i j) := fun j hj => by
            by_cases e : j = f + i
            · simp only [if_pos e]; omega
            · simp only [if_neg e]; exact hR.rng j hj
          have hp0 := hR.put (f + i) 0 0 rfl rfl (by rw [upd_at, hx]; rfl) hrg0
          have hfw := hp0.wait.free (f + i)
          have hcw := hp0.wat (j := f + i) (by omega)
          have hp := hp0.putw (f + i) (c' := upd dropF c f (i + 1)) (by
            rw [hu]
            funext j
            by_cases e : j = f + i
            · rw [if_pos e, if_pos e, hx, dropF_one]
            · simp only [if_neg e]) (by simp) hrg
          rw [hx] at hc
          have hkp : Kp (PQR p q r) wr ((wr.setCell ⟨p, f + i, none⟩ (.int .i64 0)).setCell ⟨q, f + i, none⟩ (.bool true)) := (Kp.set _ _ _ (.inl rfl)).trans (Kp.set _ _ _ (.inr (.inl rfl)))
          have c1' := hp0.self.cell (j := 0) (u := .slice (some ⟨p, 0, none⟩) N N) rfl
          have c2' := hp0.self.cell (j := 1) (u := .slice (some ⟨q, 0, none⟩) N N) rfl
          have hcp' := hp0.at_ (j := f + i) (by omega)
          simp only [if_true] at hcp' hcw
          clear hmx hx hu hr1 h4 hp0 hrg hrg0
          generalize cntIn (· == 1) c f i = m at *
          go_wp2
          go_roundw
          case rel => exact ⟨i + 1, by omega, by go_num, by rw [Hn.out]; go_num, hp, hK.trans hkp⟩
          case measure => simp [intOf]; omega
        · have Hn := Lib.hid (cntIn_no (p := (· == 1)) (c := c) (lo := f) (k := i) (by simpa using hx))
          have hp := hR.put (f + i) (c (f + i) - 1) (c (f + i) - 1) (by omega) (show upd dropF c f (i + 1) = _ by rw [upd_succ]; rw [show dropF (c (f + i)) = c (f + i) - 1 by unfold dropF; rw [if_neg hx]]) (by
              rw [upd_at]
              have e1 : (c (f + i) - 1 == -1) = false := by simp; omega
              have e2 : (c (f + i) == -1) = false := by simp; omega
              rw [e1, e2]) hrg
          have hkp : Kp (PQR p q r) wr (wr.setCell ⟨p, f + i, none⟩ (.int .i64 (c (f + i) - 1))) := Kp.set _ _ _ (.inl rfl)
          have hwc : IntKind.i64.wrap (c (f + i) - 1) = c (f + i) - 1 := by rw [IntKind.wrap_i64]; omega
          have hne : (c (f + i) - 1 == 0) = false := by simpa using (by omega : ¬ c (f + i) - 1 = 0)
          have c1' := hp.self.cell (j := 0) (u := .slice (some ⟨p, 0, none⟩) N N) rfl
          clear hmx hx
          generalize cntIn (· == 1) c f i = m at *
          go_wp2
          go_roundw
          case rel => exact ⟨i + 1, by omega, by go_num, by rw [Hn.out], hp, hK.trans hkp⟩
          case measure => simp [intOf]; omega
      · have hin : ((f + n : Nat) : Int) ≤ ((f + i : Nat) : Int) := by omega
        have he : i = n := by omega
        have He := Lib.hid he
        rw [he] at hR
        clear he
        go_wp2
        go_ret2
        rw [Hs.out]
        exact ⟨by rw [He.out]; rfl, hR, hK⟩
  · have Hs := Lib.hid (show dropR N c f n = (0, rightR N c f n, c) by unfold dropR; rw [if_pos h0])
    have H1 := (right_cases N c f n).resolve_left h0
    clear h0
    rcases H1 with H1 | H1
    all_goals
      have H1' := Lib.hid H1
      rw [H1] at Hs
      clear H1
      go_enter Try.func17, Try.ntmps17
      go_wp2_with fail
      refine (rright_ p q r N c w f n h hf hn).mono ?_
      rw [H1'.out]
      rintro e w' ⟨rfl, rfl⟩
      go_wp2
      go_ret2
      rw [Hs.out]
      exact ⟨rfl, h, Kp.refl _ _⟩
end
end Go.Proofs.Ytlkhlbieiogahaa
