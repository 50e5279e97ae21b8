/- Layer 13: which maps are maps: smap's whole and Right. -/
import Derived.Test.YtdcggnfplfgcnaaSmaA
set_option linter.all false
namespace Go.Proofs.Ytdcggnfplfgcnaa
open Go.RowKit
namespace Sma

theorem run_bad {e n : Int} {p : Pc} {l : List Pc} {b : Bool} (h : runB e n (p :: l) = b) (hp : ¬ p.fr = e ∨ ¬ e < p.en ∨ ndB p.nd = false) : b = false := by
  rw [← h]
  rw [Bool.eq_false_iff]
  intro hr
  obtain ⟨h1, h2, h3, _⟩ := run_cons.1 hr
  rcases hp with hp | hp | hp
  · exact hp h1
  · exact hp h2
  · rw [show ndB p.nd = true by simp [ndB, h3]] at hp; cases hp
theorem run_next {e n : Int} {p : Pc} {l : List Pc} {b : Bool} (h : runB e n (p :: l) = b) (h1 : p.fr = e) (h2 : e < p.en) (h3 : ndB p.nd = true) : runB p.en n l = b := by
  rw [← h]; simp [runB, h1, h2, h3]
theorem nd_int {z : Int} (h : ndB z = true) : I64 z := by simp [ndB] at h; unfold I64; omega
abbrev po (p : Pc) : Obj := .cells #[.int .i64 p.fr, .int .i64 p.en, .int .i64 p.nd] 72
section
variable (w : World)
set_option maxRecDepth 100000 in
set_option maxHeartbeats 2000000 in
theorem whole_ (m : Mp) (A : Option Addr) (k c : Nat) (h : Mr w m A k c) : Calls Try.prog 68 #[mv m A k c] w fun e w' => e = .returned (.bool (runB 0 m.n m.ps)) ∧ Below w.heap.size w w' := by
  obtain ⟨v, nn, l⟩ := m
  have hv := h.v
  have hn := h.n
  simp only at hv hn
  unfold I64 at hv hn
  have hps := h.ps
  simp only at hps
  have hk : k ≤ 9223372036854775807 := Nat.le_trans h.le h.cap
  have Hl := Lib.hid hps.len
  clear h
  simp only [mv]
  generalize hR : runB 0 nn l = R
  have hbx := (Below.refl w.heap.size w).alloc (Nat.le_refl _) (.cells #[.int .i64 v, .int .i64 nn, .slice A k c] 33)
  have hac := Blk.new w 33 #[.int .i64 v, .int .i64 nn, .slice A k c] rfl
  have hp1 := hps.alloc (.cells #[.int .i64 v, .int .i64 nn, .slice A k c] 33)
  go_enter Try.func68, Try.ntmps68
  go_wp2_with fail
  generalize (w.alloc (.cells #[.int .i64 v, .int .i64 nn, .slice A k c] 33)) = w1 at *
  go_loopw [3, 9] (fun ev iv wr => ∃ (i : Nat) (z : Int), i ≤ k ∧ iv = .int .i64 (i : Int) ∧ ev = .int .i64 z ∧ I64 z ∧ runB z nn (l.drop i) = R ∧ Below w.heap.size w wr ∧ Below w1.heap.size w1 wr) (fun _ iv _ => k - (intOf iv).toNat)
  case atStart => exact ⟨0, 0, Nat.zero_le _, rfl, rfl, by unfold I64; omega, hR, hbx, Below.refl _ _⟩
  case round =>
    obtain ⟨i, z, hi, rfl, rfl, hz, hL, hb, hb1⟩ := hrel
    clear hR
    have hac' := hac.keep hb1
    have d1 := hac'.cell (j := 1) (u := .int .i64 nn) rfl
    by_cases hlt : i < k
    · have hil : (i : Int) < (k : Int) := by omega
      have hi0 : (0 : Int) ≤ (i : Int) := by omega
      obtain ⟨b, o, rfl, p, hx, fp, c0, c1, c2⟩ := (hp1.below hb1).at_ hlt
      obtain ⟨ff, fe, fn⟩ := fp.all
      rw [drop_of hx] at hL
      have hpc := Blk.new wr 72 #[.int .i64 p.fr, .int .i64 p.en, .int .i64 p.nd] rfl
      have hba : Below w.heap.size w (wr.alloc (po p)) := hb.alloc hb.size _
      have hba1 : Below w1.heap.size w1 (wr.alloc (po p)) := hb1.alloc hb1.size _
      unfold I64 at hz
      clear hx hac hac' hps hp1
      by_cases h0 : p.fr = z
      · have t0 : (p.fr != z) = false := by simpa using h0
        by_cases h1 : p.en ≤ p.fr
        · have HB := Lib.hid (run_bad hL (.inr (.inl (by omega))))
          clear hL h0
          go_wp2
          go_ret
          rw [HB.out]
          exact ⟨rfl, hba⟩
        · have hal := hpc.alloc (.cells #[.int .i64 p.nd] 3)
          have hcal : Below (wr.alloc (po p)).heap.size (wr.alloc (po p)) ((wr.alloc (po p)).alloc (.cells #[.int .i64 p.nd] 3)) := (Below.refl _ _).alloc (Nat.le_refl _) _
          have hbb := below_step hba hcal (by omega)
          have hbb1 := below_step hba1 hcal (by omega)
          have hIs := Is.new (wr.alloc (po p)) [p.nd] (by simpa using fp.nd) 3 (g := wr.heap.size + 1) (by simp) (C := #[.int .i64 p.nd]) rfl (n := 1) rfl
          cases h2 : ndB p.nd with
          | false =>
            have HB := Lib.hid (run_bad hL (.inr (.inr h2)))
            clear hL h0
            go_wp2_with fail
            refine (may_ _ _ 1 1 [p.nd] hIs (by omega)).mono ?_
            rw [show [p.nd].all ndB = false by simp [h2]]
            rintro e w2 ⟨rfl, rfl⟩
            go_wp2
            go_ret
            rw [HB.out]
            exact ⟨rfl, hbb⟩
          | true =>
            have HL := Lib.hid (run_next hL h0 (by omega) h2)
            have d2 := hal.cell (j := 1) (u := .int .i64 p.en) rfl
            clear hL h0
            go_wp2_with fail
            refine (may_ _ _ 1 1 [p.nd] hIs (by omega)).mono ?_
            rw [show [p.nd].all ndB = true by simp [h2]]
            rintro e w2 ⟨rfl, rfl⟩
            go_wp2
            go_roundw
            case rel => exact ⟨i + 1, p.en, by omega, by go_num, rfl, fp.en, HL.out, hbb, hbb1⟩
            case measure => simp [intOf]; omega
      · have t0 : (p.fr != z) = true := by simpa using h0
        have HB := Lib.hid (run_bad hL (.inl h0))
        clear hL h0
        go_wp2
        go_ret
        rw [HB.out]
        exact ⟨rfl, hba⟩
    · have hin : (k : Int) ≤ (i : Int) := by omega
      have HB := Lib.hid (show R = decide (z = nn) by rw [← hL, drop_end Hl.out (by omega)]; rfl)
      clear hL
      go_wp2
      go_ret
      rw [HB.out]
      exact ⟨by simp [Bool.beq_eq_decide_eq], hb⟩
theorem right_no {m : Mp} (h : ¬ 1 ≤ m.v ∨ ¬ m.v ≤ 1099511627776 ∨ volB m.n = false ∨ 16 < m.ps.length ∨ runB 0 m.n m.ps = false) : m.right = false := by
  rw [Bool.eq_false_iff]
  intro hr
  obtain ⟨h1, h2, h3, h4⟩ := right_is hr
  rcases h with h | h | h | h | h
  · omega
  · omega
  · simp [volB] at h; omega
  · omega
  · rw [h4] at h; cases h
theorem vol_is {n : Int} (h : volB n = true) : 1 ≤ n ∧ n ≤ 1024 := by simpa [volB] using h
set_option maxRecDepth 100000 in
set_option maxHeartbeats 2000000 in
theorem right_ (m : Mp) (A : Option Addr) (k c : Nat) (h : Mr w m A k c) : Calls Try.prog 56 #[mv m A k c] w fun e w' => e = .returned (.bool m.right) ∧ Below w.heap.size w w' := by
  have hv := h.v
  have hn := h.n
  unfold I64 at hv hn
  have hbx := (Below.refl w.heap.size w).alloc (Nat.le_refl _) (.cells #[.int .i64 m.v, .int .i64 m.n, .slice A k c] 33)
  have hm1 := h.alloc (.cells #[.int .i64 m.v, .int .i64 m.n, .slice A k c] 33)
  have hkl := h.len
  have hkc := Nat.le_trans h.le h.cap
  simp only [mv]
  by_cases h0 : 1 ≤ m.v
  · by_cases h1 : m.v ≤ 1099511627776
    · cases h2 : volB m.n with
      | false =>
        have HB := Lib.hid (right_no (m := m) (.inr (.inr (.inl h2))))
        clear h hkl hm1
        go_enter Try.func56, Try.ntmps56
        go_wp2_with fail
        refine (volume_ _ m.n hn).mono ?_
        rw [h2]
        rintro e w2 ⟨rfl, rfl⟩
        go_wp2
        go_ret
        rw [HB.out]
        exact ⟨rfl, hbx⟩
      | true =>
        by_cases h3 : k ≤ 16
        · have h3' : (k : Int) ≤ 16 := by omega
          have HB := Lib.hid (show m.right = runB 0 m.n m.ps by
            have := vol_is h2
            simp [Mp.right, h0, h1, this, ← hkl, h3])
          clear h hkl
          go_enter Try.func56, Try.ntmps56
          go_wp2_with fail
          refine (volume_ _ m.n hn).mono ?_
          rw [h2]
          rintro e w2 ⟨rfl, rfl⟩
          go_wp2_with fail
          refine (whole_ _ m A k c hm1).mono ?_
          rintro e w3 ⟨rfl, hb3⟩
          go_wp2
          go_ret
          rw [HB.out]
          exact ⟨by simp, below_step hbx hb3 (by omega)⟩
        · have h3' : ¬ (k : Int) ≤ 16 := by omega
          have HB := Lib.hid (right_no (m := m) (.inr (.inr (.inr (.inl (by omega))))))
          clear h hkl hm1
          go_enter Try.func56, Try.ntmps56
          go_wp2_with fail
          refine (volume_ _ m.n hn).mono ?_
          rw [h2]
          rintro e w2 ⟨rfl, rfl⟩
          go_wp2
          go_ret
          rw [HB.out]
          exact ⟨rfl, hbx⟩
    · have HB := Lib.hid (right_no (m := m) (.inr (.inl h1)))
      clear h hkl hm1
      go_enter Try.func56, Try.ntmps56
      go_wp2
      go_ret
      rw [HB.out]
      exact ⟨rfl, hbx⟩
  · have HB := Lib.hid (right_no (m := m) (.inl h0))
    clear h hkl hm1
    go_enter Try.func56, Try.ntmps56
    go_wp2
    go_ret
    rw [HB.out]
    exact ⟨rfl, hbx⟩
end
end Sma
end Go.Proofs.Ytdcggnfplfgcnaa
