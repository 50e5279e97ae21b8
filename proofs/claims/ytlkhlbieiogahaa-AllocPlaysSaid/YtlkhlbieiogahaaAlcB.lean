/- Layer 5: an allocator's methods: Take, Share, Drop, Settle, Free, Waiting, Count. -/
import Derived.Test.YtlkhlbieiogahaaAlcA
namespace Go.Proofs.Ytlkhlbieiogahaa
open Go.RowKit Go.Maps

theorem row_store {w : World} {g N : Nat} {c : Nat → Int} {t : TypeId} (h : Blk w g t (rowA N (ivF c))) (j : Nat) (u : Int) (c' : Nat → Int) (hc : c' = fun i => if i = j then u else c i) :
    Blk (w.setCell ⟨g, j, none⟩ (.int .i64 u)) g t (rowA N (ivF c')) := by
  have := h.setCell j (.int .i64 u)
  rw [rowA_set] at this
  subst hc
  have e : (fun i => if i = j then Value.int .i64 u else ivF c i) = ivF (fun i => if i = j then u else c i) := by
    funext i
    unfold ivF
    by_cases e : i = j
    · simp only [if_pos e]
    · simp only [if_neg e]
  rw [e] at this
  exact this
section
variable (g N : Nat) (c : Nat → Int) (w : World)
set_option maxRecDepth 100000 in
theorem free_ (h : Al w g N c) : Calls Try.prog 20 #[.pointer (some ⟨g + 1, 0, none⟩)] w fun e w' => e = .returned (.int .i64 (freeR N c)) ∧ w = w' := by
  go_enter Try.func20, Try.ntmps20
  go_wp2_with fail
  refine (number_ g N c w 0 h).mono ?_
  rintro e w' ⟨rfl, rfl⟩
  go_wp2
  go_ret
  exact ⟨rfl, rfl⟩
set_option maxRecDepth 100000 in
theorem waiting_ (h : Al w g N c) : Calls Try.prog 22 #[.pointer (some ⟨g + 1, 0, none⟩)] w fun e w' => e = .returned (.int .i64 (waitR N c)) ∧ w = w' := by
  go_enter Try.func22, Try.ntmps22
  go_wp2_with fail
  refine (number_ g N c w (-1) h).mono ?_
  rintro e w' ⟨rfl, rfl⟩
  go_wp2
  go_ret
  exact ⟨rfl, rfl⟩
set_option maxRecDepth 100000 in
theorem count_ (i : Int) (h : Al w g N c) : Calls Try.prog 24 #[.pointer (some ⟨g + 1, 0, none⟩), .int .i64 i] w fun e w' => e = .returned (.int .i64 (countR N c i)) ∧ w = w' := by
  have c1 := h.self.cell (j := 1) (u := .slice (some ⟨g, 0, none⟩) N N) rfl
  have hm := h.most
  by_cases h0 : i < 0
  · have Hr := Lib.hid (show countR N c i = 0 by unfold countR; rw [if_pos (.inl h0)])
    go_enter Try.func24, Try.ntmps24
    go_wp2_with fail
    refine (made_ g N c w h).mono ?_
    rintro e w' ⟨rfl, rfl⟩
    go_wp2
    go_ret
    rw [Hr.out]
    exact ⟨rfl, rfl⟩
  · by_cases h1 : (N : Int) ≤ i
    · have Hr := Lib.hid (show countR N c i = 0 by unfold countR; rw [if_pos (.inr h1)])
      go_enter Try.func24, Try.ntmps24
      go_wp2_with fail
      refine (made_ g N c w h).mono ?_
      rintro e w' ⟨rfl, rfl⟩
      go_wp2
      go_ret
      rw [Hr.out]
      exact ⟨rfl, rfl⟩
    · obtain ⟨i, rfl⟩ := Int.eq_ofNat_of_zero_le (show 0 ≤ i by omega)
      have Hr := Lib.hid (show countR N c i = max 0 (c i) by unfold countR; rw [if_neg (by omega)]; rfl)
      have hc := h.at_ (j := i) (by omega)
      go_enter Try.func24, Try.ntmps24
      go_wp2_with fail
      refine (made_ g N c w h).mono ?_
      rintro e w' ⟨rfl, rfl⟩
      go_wp2
      go_ret
      rw [Hr.out]
      exact ⟨rfl, rfl⟩

set_option maxRecDepth 100000 in
set_option maxHeartbeats 1000000 in
theorem settle_ (h : Al w g N c) : Calls Try.prog 18 #[.pointer (some ⟨g + 1, 0, none⟩)] w fun e w' => e = .returned (.int .i64 (waitR N c)) ∧ Al w' g N (settleC N c) ∧ Tn g (g + 1) w w' := by
  have hm := h.most
  go_enter Try.func18, Try.ntmps18
  go_wp2_with fail
  refine (made_ g N c w h).mono ?_
  rintro e w' ⟨rfl, rfl⟩
  have c1 := h.self.cell (j := 1) (u := .slice (some ⟨g, 0, none⟩) N N) rfl
  go_wp2_with fail
  clear c1
  go_loopw [3, 13] (fun nv iv wr => ∃ i : Nat, i ≤ N ∧ iv = .int .i64 (i : Int) ∧ nv = .int .i64 ((cntIn (· == -1) c 0 i : Nat) : Int) ∧ Al wr g N (upd settleF c 0 i) ∧ Tn g (g + 1) w wr) (fun _ iv _ => N - (intOf iv).toNat)
  case atStart => exact ⟨0, Nat.zero_le _, rfl, rfl, by rw [upd_zero]; exact h, Tn.refl _ _ _⟩
  case round =>
    obtain ⟨i, hi, rfl, rfl, hA, hT⟩ := hrel
    have c1 := hA.self.cell (j := 1) (u := .slice (some ⟨g, 0, none⟩) N N) rfl
    by_cases hlt : i < N
    · have hil : (i : Int) < (N : Int) := by omega
      have hle := cntIn_le (· == -1) c 0 i
      have hz : (0 : Nat) + i = i := Nat.zero_add i
      have hc := hA.at_ hlt
      have hu := upd_at (f := settleF) (c := c) (lo := 0) (k := i)
      have hs := upd_succ settleF c 0 i
      rw [hz] at hu hs
      rw [hu] at hc
      have hf := hA.row.free i
      cases hx : c i == -1 with
      | true =>
        have he : c i = -1 := by simpa using hx
        have Hn := Lib.hid (cntIn_yes (p := (· == -1)) (c := c) (lo := 0) (k := i) (by rw [hz]; exact hx))
        have hv : settleF (c i) = 0 := by unfold settleF; rw [if_pos he]
        have Hs := Lib.hid (hs.trans (by rw [hv]))
        rw [he] at hc
        clear hs hu hv he hx
        generalize cntIn (· == -1) c 0 i = m at *
        go_wp2
        go_roundw
        case rel => exact ⟨i + 1, by omega, by go_num, by rw [Hn.out]; go_num, hA.rows (Tn.set _ _ _ (Nat.le_refl _) (Nat.lt_succ_self _)) (row_store hA.row i 0 _ Hs.out) (h.rng.settle_upto _), hT.trans (Tn.set _ _ _ (Nat.le_refl _) (Nat.lt_succ_self _))⟩
        case measure => simp [intOf]; omega
      | false =>
        have he : c i ≠ -1 := by simpa using hx
        have Hn := Lib.hid (cntIn_no (p := (· == -1)) (c := c) (lo := 0) (k := i) (by rw [hz]; exact hx))
        have hv : settleF (c i) = c i := by unfold settleF; rw [if_neg he]
        have Hs := Lib.hid (upd_keep (f := settleF) (c := c) (lo := 0) (k := i) (by rw [hz]; exact hv))
        clear hs hu hv he
        generalize cntIn (· == -1) c 0 i = m at *
        go_wp2
        go_roundw
        case rel => exact ⟨i + 1, by omega, by go_num, by rw [Hn.out], by rw [Hs.out]; exact hA, hT⟩
        case measure => simp [intOf]; omega
    · have hin : (N : Int) ≤ (i : Int) := by omega
      have he : i = N := by omega
      have He := Lib.hid he
      rw [he] at hA
      clear he
      go_wp2
      go_ret
      exact ⟨by rw [He.out]; rfl, hA, hT⟩
end
end Go.Proofs.Ytlkhlbieiogahaa
